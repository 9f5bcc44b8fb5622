/- The document's values of a word; PackSplits, walked. -/
import Derived.Test.YtgpodmjdgcoidaaPackFields
namespace Go.Proofs.Ytgpodmjdgcoidaa
open Go.RowKit Go.MapKept
namespace Pack

theorem sp_u64s {l : List Int} {m : Nat} (h : m < l.length) (x : Nat) : u64s (sp x (l.take (m + 1))) = u64s (sp x (l.take m)) ++ [.int .u64 ((rest x (l.take m) % 2 ^ l[m].toNat : Nat) : Int)] := by
  rw [sp_step h]
  simp only [u64s, List.map_append, List.map_cons, List.map_nil]

/-- what a split answers -/
def Spl (w : World) (x : Nat) (l : List Int) (e : Ending) (w' : World) : Prop := ∃ (G : Option Addr) (gc : Nat), e = .returned (.tuple #[.slice G ((split x l).getD []).length gc, .bool (split x l).isSome]) ∧ Wds w' G ((split x l).getD []) ∧ Below w.heap.size w w'
theorem spl_none {w w' : World} {x : Nat} {l : List Int} (hs : split x l = none) (hb : Below w.heap.size w w') : Spl w x l (.returned (.tuple #[.slice none 0 0, .bool false])) w' := by
  refine ⟨none, 0, ?_, ?_, hb⟩
  · rw [hs]
    rfl
  · rw [hs]
    exact wds_nil _ _
theorem spl_some {w w' : World} {x : Nat} {l : List Int} {G : Option Addr} {gc : Nat} (hs : split x l = some (sp x l)) (hw : Wds w' G (sp x l)) (hb : Below w.heap.size w w') : Spl w x l (.returned (.tuple #[.slice G l.length gc, .bool true])) w' := by
  refine ⟨G, gc, ?_, ?_, hb⟩
  · rw [hs]
    simp [sp_len]
  · rw [hs]
    exact hw

section
variable {w : World}
set_option maxHeartbeats 3200000 in
set_option maxRecDepth 100000 in
theorem refSplit_any (x : Nat) (hx : x < 18446744073709551616) (A : Option Addr) (c : Nat) (l : List Int) (h : Nts w A l) :
    Calls Try.prog 12 #[.int .u64 (x : Int), .slice A l.length c] w (Spl w x l) := by
  have hn := h.len
  have H := Lib.hid h
  clear h
  have HP := Lib.hid (fun (w : World) n hn => power_any w n hn)
  go_enter Try.func12, Try.ntmps12
  go_wp2
  go_loopw [0, 6, 7, 12] (fun y v a i wr => ∃ (m s : Nat) (G : Option Addr) (gc : Nat), m ≤ l.length ∧ i = .int .i64 (m : Int) ∧ y = .int .u64 ((rest x (l.take m) : Nat) : Int) ∧ a = .int .i64 ((64 - s : Nat) : Int) ∧ tot 0 (l.take m) = some s ∧ v = .slice G m gc ∧ wr.ownsRow w.heap.size 26 1 (.slice G m gc) m (u64s (sp x (l.take m))) ∧ Below w.heap.size w wr) (fun _ _ _ i _ => l.length - (intOf i).toNat)
  case atStart => exact ⟨0, 0, none, 0, Nat.zero_le _, rfl, rfl, rfl, rfl, rfl, World.ownsRow_nil _ _ _ _, Below.refl _ _⟩
  case round =>
    obtain ⟨m, s, G, gc, hm, rfl, rfl, rfl, ht, rfl, hown, hbel⟩ := hrel
    have hs := tot_le (by omega) ht
    rw [List.length_take, Nat.min_eq_left hm, Nat.zero_add] at hs
    by_cases hlt : m < l.length
    · obtain ⟨b, o, rfl, hb, hcell⟩ := H.out.at' m hlt
      have hca := (hbel.cell (p := ⟨b, o + m, none⟩) hb).trans hcell
      have hi := H.out.i64 _ (List.getElem_mem hlt)
      have HT := Lib.hid (tot_step hlt ht)
      have HX := Lib.hid (rest_step hlt x)
      have HU := Lib.hid (sp_u64s hlt x)
      have hxr : rest x (l.take m) < 18446744073709551616 := Nat.lt_of_le_of_lt (rest_le _ _) hx
      generalize l[m] = n at *
      clear hcell ht
      by_cases hc : 1 ≤ n ∧ n ≤ 64 - (s : Int)
      · obtain ⟨q, rfl⟩ := Int.eq_ofNat_of_zero_le (show 0 ≤ n by omega)
        have ht2 := HT.out
        rw [if_pos hc] at ht2
        have HT2 := Lib.hid ht2
        clear ht2 HT
        simp only [Int.toNat_natCast] at HX HU HT2
        generalize rest x (l.take m) = y at *
        obtain ⟨i1, hi1, hy0, hy1, hy2⟩ := info_parts u64_info
        have hsz := hbel.size
        by_cases hq : q < 64
        · obtain ⟨u, hu⟩ : ∃ u : Nat, u = 2 ^ q := ⟨_, rfl⟩
          have hu0 : 0 < u := by rw [hu]; exact Nat.two_pow_pos _
          have HPQ := Lib.hid (fun W => hu ▸ HP.out W q hq)
          rw [← hu] at HX HU
          clear hu
          have hr1 : (y : Int) % (u : Int) = ((y % u : Nat) : Int) := rfl
          have hr2 : (y : Int) / (u : Int) = ((y / u : Nat) : Int) := rfl
          have hrl : y % u < 18446744073709551616 := Nat.lt_of_le_of_lt (Nat.mod_le _ _) hxr
          have hdl : y / u < 18446744073709551616 := Nat.lt_of_le_of_lt (Nat.div_le_self _ _) hxr
          generalize y % u = r at *
          generalize y / u = d at *
          have HO := Lib.hid (hown.alloc (.cells #[.int .u64 (r : Int)] 26))
          have HB := Lib.hid (hbel.alloc hbel.size (.cells #[.int .u64 (r : Int)] 26))
          have HRW := Lib.hid hown
          clear hown hbel
          go_wp2_with (first
                      | (go_at_call 18
                         refine (HPQ.out _).mono ?_
                         rintro e w' ⟨rfl, rfl⟩)
                      | (at_builtin
                         refine wpList_append_own_at _ rfl (.tmp 32) (.tmp 37) 25 rfl w.heap.size 26 i1 (.int .u64 0) 1 8 Try.underlying25 hi1 hy0 hy1 hy2 rfl (by decide) (.slice G m gc) m (u64s (sp x (l.take m))) rfl HO.out ⟨wr.heap.size, 0, none⟩ 1 1 [.int .u64 (r : Int)] rfl rfl (cell_one_new _ _ _) (by simp [Value.oneCell']) (by unfold maxLen; omega) (by omega) (by simp; omega) ?_
                         intro v' w3 hown3 hgr3 _ hat3
                         obtain ⟨G3, c3, rfl⟩ := row_slice hown3
                         have HO3 := Lib.hid hown3
                         have HB3 := Lib.hid (HB.out.grown hgr3 (by simp; omega) (fun k hk => row_base_lt HRW.out hk))
                         clear hown3 hgr3 hat3))
          refine ⟨⟨m + 1, s + q, G3, c3, by omega, by go_num, by rw [HX.out], by go_num, HT2.out, rfl, ?_, HB3.out⟩, by simp [intOf]; omega⟩
          rw [HU.out]
          exact HO3.out
        · obtain rfl : q = 64 := by omega
          have hym : y % 2 ^ 64 = y := Nat.mod_eq_of_lt hxr
          have hyd : y / 2 ^ 64 = 0 := Nat.div_eq_of_lt hxr
          rw [hym] at HU
          rw [hyd] at HX
          clear hym hyd
          have HO := Lib.hid (hown.alloc (.cells #[.int .u64 (y : Int)] 26))
          have HB := Lib.hid (hbel.alloc hbel.size (.cells #[.int .u64 (y : Int)] 26))
          have HRW := Lib.hid hown
          clear hown hbel
          go_wp2_with (at_builtin
                       refine wpList_append_own_at _ rfl (.tmp 28) (.tmp 30) 25 rfl w.heap.size 26 i1 (.int .u64 0) 1 8 Try.underlying25 hi1 hy0 hy1 hy2 rfl (by decide) (.slice G m gc) m (u64s (sp x (l.take m))) rfl HO.out ⟨wr.heap.size, 0, none⟩ 1 1 [.int .u64 (y : Int)] rfl rfl (cell_one_new _ _ _) (by simp [Value.oneCell']) (by unfold maxLen; omega) (by omega) (by simp; omega) ?_
                       intro v' w3 hown3 hgr3 _ hat3
                       obtain ⟨G3, c3, rfl⟩ := row_slice hown3
                       have HO3 := Lib.hid hown3
                       have HB3 := Lib.hid (HB.out.grown hgr3 (by simp; omega) (fun k hk => row_base_lt HRW.out hk))
                       clear hown3 hgr3 hat3)
          refine ⟨⟨m + 1, s + 64, G3, c3, by omega, by go_num, by rw [HX.out]; rfl, by go_num, HT2.out, rfl, ?_, HB3.out⟩, by simp [intOf]; omega⟩
          rw [HU.out]
          exact HO3.out
      · have ht2 := HT.out
        rw [if_neg hc] at ht2
        have HS := Lib.hid (show split x l = none by unfold split; rw [tot_none ht2])
        have HB := Lib.hid hbel
        clear ht2 HT hown hbel
        by_cases h1 : n < 1
        · go_wp2
          go_ret2
          exact spl_none HS.out HB.out
        · have h2 : ((64 - s : Nat) : Int) < n := by omega
          go_wp2
          go_ret2
          exact spl_none HS.out HB.out
    · obtain rfl : m = l.length := by omega
      rw [List.take_length] at ht hown ⊢
      have hrest := (rest_tot (x := x) ht).2
      rw [Nat.sub_zero] at hrest
      by_cases h0 : x / 2 ^ s = 0
      · have HS := Lib.hid (show split x l = some (sp x l) by unfold split; rw [ht]; simp only; rw [if_pos h0])
        have HW := Lib.hid (own_wds hown (fun y hy => Nat.lt_of_le_of_lt (sp_le _ _ y hy) hx) hn)
        have HB := Lib.hid hbel
        rw [hrest, h0]
        clear ht hown hbel hrest h0
        go_wp2
        go_ret2
        exact spl_some HS.out HW.out HB.out
      · have HS := Lib.hid (show split x l = none by unfold split; rw [ht]; simp only; rw [if_neg h0])
        have HB := Lib.hid hbel
        rw [hrest]
        clear ht hown hbel hrest
        generalize x / 2 ^ s = d at *
        go_wp2
        go_ret2
        exact spl_none HS.out HB.out
end
end Pack
end Go.Proofs.Ytgpodmjdgcoidaa
