/- The document's Split, byte by byte. -/
import Derived.Test.YtobffegkdoefnaaDoorPatKids
import Derived.Test.YtobffegkdoefnaaDoorPatJoin
namespace Go.Proofs.YtobffegkdoefnaaDoor
open Go.RowKit Go.MapKept Go.Shelf
namespace Pat

/-- behind k bytes: m are done, t is begun -/
def Mid (s : ByteArray) (k : Nat) (m : List ByteArray) (t : ByteArray) : Prop :=
  k ≤ s.size ∧ cut (s.extract 1 s.size).data.toList = m.map (·.data.toList) ++ glue t.data.toList (cut (s.data.toList.drop k))
theorem drop_byte {s : ByteArray} {k : Nat} (h : k < s.size) : s.data.toList.drop k = s[k] :: s.data.toList.drop (k + 1) := by
  have h1 := Lib.data_getElem? s k h
  have h2 : k < s.data.toList.length := by rw [← Lib.size_eq]; exact h
  rw [List.drop_eq_getElem_cons h2]
  rw [List.getElem?_eq_getElem h2] at h1
  injection h1 with h1
  rw [h1]
theorem mid_start {s : ByteArray} (h : 0 < s.size) : Mid s 1 [] ByteArray.empty :=
  ⟨h, by rw [Lib.extract_to_end]; exact (glue_none (cut_ne _)).symm⟩
theorem mid_byte {s : ByteArray} {k : Nat} {m : List ByteArray} {t : ByteArray} (h : k < s.size) (hb : s[k] ≠ 47) (hm : Mid s k m t) : Mid s (k + 1) m (t ++ s.extract k (k + 1)) := by
  refine ⟨h, ?_⟩
  have e : (t ++ s.extract k (k + 1)).data.toList = t.data.toList ++ [s[k]] := by
    rw [ByteArray.data_append, Array.toList_append, Lib.extract_data]
    congr 1
    have := drop_byte h
    rw [this]
    simp
  rw [hm.2, drop_byte h, cut, if_neg hb, glue_glue, e]
theorem mid_piece {s : ByteArray} {k : Nat} {m : List ByteArray} {t : ByteArray} (h : k = s.size ∨ ∃ h : k < s.size, s[k] = 47) (hm : Mid s k m t) : ∃ r, cut (s.extract 1 s.size).data.toList = m.map (·.data.toList) ++ t.data.toList :: r := by
  rw [hm.2]
  rcases h with rfl | ⟨h, hb⟩
  · refine ⟨[], ?_⟩
    rw [List.drop_eq_nil_of_le (by rw [← Lib.size_eq]; exact Nat.le_refl _)]
    simp [cut, glue]
  · refine ⟨cut (s.data.toList.drop (k + 1)), ?_⟩
    rw [drop_byte h, cut, if_pos hb]
    simp [glue]
theorem mid_cut {s : ByteArray} {k : Nat} {m : List ByteArray} {t : ByteArray} (h : k < s.size) (hb : s[k] = 47) (hm : Mid s k m t) : Mid s (k + 1) (m ++ [t]) ByteArray.empty := by
  refine ⟨h, ?_⟩
  rw [hm.2, drop_byte h, cut, if_pos hb, show ByteArray.empty.data.toList = [] from rfl, glue_none (cut_ne _)]
  simp [glue]
theorem mid_end {s : ByteArray} {m : List ByteArray} {t : ByteArray} (hm : Mid s s.size m t) : cut (s.extract 1 s.size).data.toList = (m ++ [t]).map (·.data.toList) := by
  rw [hm.2, List.drop_eq_nil_of_le (by rw [← Lib.size_eq]; exact Nat.le_refl _)]
  simp [cut, glue]

/-- between two rounds -/
def St (s : ByteArray) (k : Nat) (m : List ByteArray) (t : ByteArray) : Prop :=
  (∀ n ∈ m, Ent.Right (Crc.tx n)) ∧ m.length ≤ 64 ∧ t.size ≤ k ∧ (Mid s k m t ∨ (k = s.size + 1 ∧ cut (s.extract 1 s.size).data.toList = m.map (·.data.toList)))
theorem St.mid {s : ByteArray} {k : Nat} {m : List ByteArray} {t : ByteArray} (h : St s k m t) (hk : k ≤ s.size) : Mid s k m t := by
  rcases h.2.2.2 with h | ⟨h, _⟩
  · exact h
  · omega
theorem St.byte {s : ByteArray} {k : Nat} {m : List ByteArray} {t : ByteArray} (h : St s k m t) (hk : k < s.size) (hb : s[k] ≠ 47) : St s (k + 1) m (t ++ s.extract k (k + 1)) :=
  ⟨h.1, h.2.1, by have := h.2.2.1; rw [ByteArray.size_append, ByteArray.size_extract]; omega, .inl (mid_byte hk hb (h.mid (Nat.le_of_lt hk)))⟩
theorem St.next {s : ByteArray} {k : Nat} {m : List ByteArray} {t : ByteArray} (h : St s k m t) (hk : k ≤ s.size) (hb : k = s.size ∨ ∃ h : k < s.size, s[k] = 47) (hr : Ent.Right (Crc.tx t)) (hl : m.length < 64) : St s (k + 1) (m ++ [t]) ByteArray.empty := by
  refine ⟨fun n hn => ?_, by simp; omega, Nat.zero_le _, ?_⟩
  · rcases List.mem_append.1 hn with h1 | h1
    · exact h.1 n h1
    · obtain rfl : n = t := by simpa using h1
      exact hr
  · rcases hb with rfl | ⟨hlt, hb⟩
    · exact .inr ⟨rfl, mid_end (h.mid hk)⟩
    · exact .inl (mid_cut hlt hb (h.mid hk))
theorem St.none {s : ByteArray} {k : Nat} {m : List ByteArray} {t : ByteArray} (h : St s k m t) (hk : k ≤ s.size) (hb : k = s.size ∨ ∃ h : k < s.size, s[k] = 47) (hr : ¬ Ent.Right (Crc.tx t) ∨ m.length = 64) : ¬ IsNames ((cut (s.extract 1 s.size).data.toList).map mk) := by
  obtain ⟨r, e⟩ := mid_piece hb (h.mid hk)
  intro hn
  rw [e] at hn
  rcases hr with hr | hr
  · exact hr (hn.2 t (by simp))
  · have := hn.1
    simp at this
    omega
theorem St.last {s : ByteArray} {k : Nat} {m : List ByteArray} {t : ByteArray} (h : St s k m t) (hk : s.size < k) : (cut (s.extract 1 s.size).data.toList).map mk = m ∧ IsNames m := by
  rcases h.2.2.2 with h1 | ⟨_, h1⟩
  · have := h1.1
    omega
  · exact ⟨by rw [h1, map_mk], h.2.1, h.1⟩

/-- what the document's Split answers -/
def RefS (w : World) (s : ByteArray) (e : Ending) (w' : World) : Prop :=
  Below w.heap.size w w' ∧ ((∃ l A c, spl s = some l ∧ e = .returned (.tuple #[.slice A l.length c, .bool true]) ∧ Txs w' A l) ∨ (spl s = none ∧ e = .returned (.tuple #[.slice none 0 0, .bool false])))
/-- names of the call's own -/
def GotO (w wr : World) (G : Option Addr) (gc : Nat) (m : List ByteArray) : Prop := wr.ownsRow w.heap.size 9 1 (.slice G m.length gc) m.length (strs m) ∧ Below w.heap.size w wr
theorem right_size {s : ByteArray} (h : Ent.Right (Crc.tx s)) : s.size ≤ 48 := by have := h.1.2; rw [Crc.tx_len] at this; exact this

set_option maxRecDepth 100000 in
set_option maxHeartbeats 2000000 in
theorem refSplit_any (w : World) (s : ByteArray) (hs : s.size < 4294967281) :
    Calls Tryd.prog 14 #[.string s] w (RefS w s) := by
  by_cases hr : s.toList = [47]
  · have HX := Lib.hid (show RefS w s (.returned (.tuple #[.slice none 0 0, .bool true])) w from ⟨Below.refl _ _, .inl ⟨[], none, 0, spl_root hr, rfl, txs_nil _ _⟩⟩)
    go_enter Tryd.func14, Tryd.ntmps14
    go_wp2
    refine bodyPost_ret (v := .tuple #[.slice none 0 0, .bool true]) ?_ rfl HX.out
    simp [results, Tryd.results14, go_sem]
  · have hr1 : (s.toList == [47]) = false := by simpa using hr
    by_cases h0 : 0 < s.size
    · have hse : ¬ s.toList = [] := fun e => by
        have : s.size = 0 := by rw [Lib.size_eq, ← Lib.toList_data, e]; rfl
        omega
      have hse1 : (s.toList == []) = false := by simpa using hse
      by_cases hb : s[0] = 47
      · have hbn : (s[0].toNat : Int) = 47 := by rw [hb]; rfl
        have HSP := Lib.hid (spl_cons h0 hb hr)
        have HST := Lib.hid (show St s 1 [] ByteArray.empty from ⟨fun n hn => by simp at hn, by simp, Nat.zero_le _, .inl (mid_start h0)⟩)
        obtain ⟨i0, hi0, hz0, hz1, hz2⟩ := info_parts str_info
        clear hb
        go_enter Tryd.func14, Tryd.ntmps14
        go_wp2
        go_loopw [4, 5, 6] (fun sv tv i wr => ∃ (k gc : Nat) (G : Option Addr) (m : List ByteArray) (t : ByteArray), sv = .slice G m.length gc ∧ tv = .string t ∧ i = .int .i64 (k : Int) ∧ GotO w wr G gc m ∧ 1 ≤ k ∧ k ≤ s.size + 1 ∧ St s k m t) (fun _ _ i _ => s.size + 1 - (intOf i).toNat)
        case atStart => exact ⟨1, 0, none, [], ByteArray.empty, rfl, rfl, rfl, ⟨⟨rfl, .inl ⟨rfl, rfl⟩⟩, Below.refl _ _⟩, Nat.le_refl _, by omega, HST.out⟩
        case round =>
          obtain ⟨k, gc, G, m, t, rfl, rfl, rfl, hgot, hk1, hk, hst⟩ := hrel
          have HG := Lib.hid hgot
          have HS := Lib.hid hst
          have hm64 : m.length ≤ 64 := hst.2.1
          have ht : t.size ≤ k := hst.2.2.1
          clear hgot hst
          have stay : k ≤ s.size → (k = s.size ∨ ∃ h : k < s.size, s[k] = 47) → (¬ Ent.Right (Crc.tx t) ∨ m.length = 64) → RefS w s (.returned (.tuple #[.slice none 0 0, .bool false])) wr := fun h1 h2 h3 =>
            ⟨HG.out.2, .inr ⟨by rw [HSP.out, if_neg (HS.out.none h1 h2 h3)], rfl⟩⟩
          have STAY := Lib.hid stay
          clear stay
          by_cases hle : k ≤ s.size
          · have hle1 : (k : Int) ≤ (s.size : Int) := by omega
            by_cases hbyte : ∃ h : k < s.size, s[k] ≠ 47
            · obtain ⟨hlt, hb⟩ := hbyte
              have hbk : ¬ (s[k].toNat : Int) = 47 := fun e => hb (UInt8.toNat_inj.1 (by have : (47 : UInt8).toNat = 47 := rfl; omega))
              have HNX := Lib.hid (HS.out.byte hlt hb)
              have hx : (s.extract k (k + 1)).size = 1 := by rw [ByteArray.size_extract]; omega
              have ha : t.size + (s.extract k (k + 1)).size ≤ 9223372036854775807 := by omega
              have hlt1 : (k : Int) < (s.size : Int) := by omega
              have c0 : (0 : Int) ≤ (k : Int) := by omega
              have c1 : (k : Int) ≤ (k : Int) + 1 := by omega
              have c2 : (k : Int) + 1 ≤ (s.size : Int) := by omega
              clear hb
              go_wp2
              exact ⟨⟨k + 1, gc, G, m, _, rfl, rfl, by go_num, HG.out, by omega, by omega, HNX.out⟩, by simp [intOf]; omega⟩
            · have hpc : k = s.size ∨ ∃ h : k < s.size, s[k] = 47 := by
                by_cases hlt : k < s.size
                · refine .inr ⟨hlt, ?_⟩
                  by_cases hb : s[k] = 47
                  · exact hb
                  · exact absurd ⟨hlt, hb⟩ hbyte
                · exact .inl (by omega)
              have HPC := Lib.hid hpc
              have hts : t.size ≤ 9223372036854775807 := by omega
              have HREF := Lib.hid (Ent.refRight_any wr t hts)
              have HOWN := Lib.hid (HG.out.1.alloc (.cells #[.string t] 9))
              have HB5 := Lib.hid (HG.out.2.alloc HG.out.2.size (.cells #[.string t] 9))
              have HN5 := Lib.hid (one_new wr t 9)
              have hc0 : (0 : Int) ≤ (k : Int) := by omega
              clear hbyte hpc
              rcases HPC.out with h | ⟨h, hb⟩
              all_goals (
                first
                | (have hlt1 : ¬ (k : Int) < (s.size : Int) := by omega
                   clear h
                   go_wp2_with fail)
                | (have hlt1 : (k : Int) < (s.size : Int) := by omega
                   have hbk : (s[k].toNat : Int) = 47 := by rw [hb]; rfl
                   clear hb
                   go_wp2_with fail)
                refine HREF.out.mono ?_
                rintro e w2 ⟨rfl, rfl⟩
                by_cases hr : Ent.Right (Crc.tx t)
                · rw [Ent.right_iff.2 hr]
                  by_cases hl : m.length = 64
                  · have hli : ((m.length : Int) == 64) = true := by rw [hl]; rfl
                    have hli2 : (m.length : Int) = 64 := by omega
                    have HX := Lib.hid (STAY.out hle HPC.out (.inr hl))
                    clear hl hr
                    go_wp2
                    refine bodyPost_ret (v := .tuple #[.slice none 0 0, .bool false]) ?_ rfl HX.out
                    simp [results, Tryd.results14, go_sem]
                  · have hli : ((m.length : Int) == 64) = false := beq_eq_false_iff_ne.2 (by omega)
                    have hli2 : ¬ (m.length : Int) = 64 := by omega
                    have HNX := Lib.hid (HS.out.next hle HPC.out hr (by omega))
                    clear hr
                    go_wp2_with (at_builtin; refine wpList_append_own_at _ rfl (.tmp 48) (.tmp 50) 22 rfl w.heap.size 9 i0 (.string ByteArray.empty) 1 16 Tryd.underlying22 hi0 hz0 hz1 hz2 rfl (by decide) (.slice G m.length gc) m.length (strs m) rfl HOWN.out ⟨wr.heap.size, 0, none⟩ 1 1 [.string t] rfl rfl HN5.out (by simp [Value.oneCell']) (by unfold maxLen; omega) (by omega) (by have := HB5.out.size; omega) ?_
                                 intro v' w3 hown3 hgr3 _ _
                                 obtain ⟨G', gc', rfl⟩ := row_slice hown3
                                 have HO3 := Lib.hid (show GotO w w3 G' gc' (m ++ [t]) from ⟨by rw [show (m ++ [t]).length = m.length + 1 by simp, show strs (m ++ [t]) = strs m ++ [Value.string t] by simp [strs]]; exact hown3, HB5.out.grown hgr3 HB5.out.size (fun k hk => row_base_lt HG.out.1 hk)⟩)
                                 clear hown3 hgr3)
                    exact ⟨⟨k + 1, gc', G', m ++ [t], ByteArray.empty, by simp, rfl, by go_num, HO3.out, by omega, by omega, HNX.out⟩, by simp [intOf]; omega⟩
                · rw [Ent.right_no hr]
                  have HX := Lib.hid (STAY.out hle HPC.out (.inl hr))
                  clear hr
                  go_wp2
                  refine bodyPost_ret (v := .tuple #[.slice none 0 0, .bool false]) ?_ rfl HX.out
                  simp [results, Tryd.results14, go_sem])
          · have hle1 : ¬ (k : Int) ≤ (s.size : Int) := by omega
            obtain ⟨hL1, hL2⟩ := HS.out.last (by omega)
            have HX := Lib.hid (show RefS w s (.returned (.tuple #[.slice G m.length gc, .bool true])) wr from
              ⟨HG.out.2, .inl ⟨m, G, gc, by rw [HSP.out, hL1, if_pos hL2], rfl, (own_txs HG.out.1 (fun n hn => by have := right_size (hL2.2 n hn); omega) (by omega)).1⟩⟩)
            clear hL1 hL2
            go_wp2
            refine bodyPost_ret (v := .tuple #[.slice G m.length gc, .bool true]) ?_ rfl HX.out
            simp [results, Tryd.results14, go_sem]
      · have hbn : ¬ (s[0].toNat : Int) = 47 := fun e => hb (UInt8.toNat_inj.1 (by have : (47 : UInt8).toNat = 47 := rfl; omega))
        have HX := Lib.hid (show RefS w s (.returned (.tuple #[.slice none 0 0, .bool false])) w from ⟨Below.refl _ _, .inr ⟨spl_other (fun _ => hb), rfl⟩⟩)
        clear hb
        go_enter Tryd.func14, Tryd.ntmps14
        go_wp2
        refine bodyPost_ret (v := .tuple #[.slice none 0 0, .bool false]) ?_ rfl HX.out
        simp [results, Tryd.results14, go_sem]
    · have hse : s.toList = [] := by
        have : s.data.toList = [] := List.length_eq_zero_iff.1 (by rw [← Lib.size_eq]; omega)
        rw [Lib.toList_data, this]
      have HX := Lib.hid (show RefS w s (.returned (.tuple #[.slice none 0 0, .bool false])) w from ⟨Below.refl _ _, .inr ⟨spl_other (fun h => absurd h h0), rfl⟩⟩)
      go_enter Tryd.func14, Tryd.ntmps14
      go_wp2
      refine bodyPost_ret (v := .tuple #[.slice none 0 0, .bool false]) ?_ rfl HX.out
      simp [results, Tryd.results14, go_sem]
end Pat
end Go.Proofs.YtobffegkdoefnaaDoor
