/- The law of a path with one name more. -/
import Derived.Test.YtobffegkdoefnaaDoorPatKids
namespace Go.Proofs.YtobffegkdoefnaaDoor
open Go.RowKit Go.MapKept Go.Shelf
namespace Pat

set_option maxRecDepth 100000 in
set_option maxHeartbeats 4000000 in
theorem kids_law (w : World) (A O : Option Addr) (c d : Nat) (l other : List ByteArray) (name : ByteArray) (hl : Txs w A l) (ho : Txs w O other) (hs : name.size ≤ 9223372036854775807) (hA : A = none → c = 0) (hd : other.length ≤ d) :
    Calls Tryd.prog 3 #[.slice A l.length c, .string name, .slice O other.length d] w fun e w' => e = .returned (.bool true) ∧ Below w.heap.size w w' := by
  have HL := Lib.hid lives_any
  have H := Lib.hid (show Tri w A A O l l other from ⟨hl, hl, ho⟩)
  have HA := Lib.hid hA
  have hll := hl.len
  have hol := ho.len
  obtain ⟨i0, hi0, hz0, hz1, hz2⟩ := info_parts str_info
  have fin : ∀ (a : World), Below w.heap.size w a → Calls Tryd.prog 8 #[] a fun e w' => e = .returned (.bool true) ∧ Below w.heap.size w w' :=
    fun a ha => (HL.out a).mono fun e w' h => ⟨h.1, ha.trans (h.2.mono ha.size)⟩
  have FIN := Lib.hid fin
  clear hl ho hA fin
  go_enter Tryd.func3, Tryd.ntmps3
  go_wp2_with fail
  refine (HL.out _).mono ?_
  rintro e w1 ⟨rfl, hb⟩
  have H1 := Lib.hid (H.out.keep hb)
  have HB1 := Lib.hid hb
  clear hb H
  go_wp2_with fail
  refine (few_any w1 A c l H1.out.l).mono ?_
  rintro e w2 ⟨rfl, rfl⟩
  cases hfl : few l with
  | false =>
    go_wp2_with fail
    refine (FIN.out _ HB1.out).mono ?_
    rintro e w3 ⟨rfl, hb⟩
    have HB := Lib.hid hb
    clear hb
    go_wp2
    go_ret
    exact ⟨rfl, HB.out⟩
  | true =>
  have hfw : Few l := of_decide_eq_true hfl
  have hl70 := hfw.2
  clear hfw
  go_wp2_with fail
  refine (few_any w2 O d other H1.out.o).mono ?_
  rintro e w3 ⟨rfl, rfl⟩
  cases hfo : few other with
  | false =>
    go_wp2_with fail
    refine (FIN.out _ HB1.out).mono ?_
    rintro e w4 ⟨rfl, hb⟩
    have HB := Lib.hid hb
    clear hb
    go_wp2
    go_ret
    exact ⟨rfl, HB.out⟩
  | true =>
  by_cases h60 : (60 : Int) < (l.length : Int)
  · go_wp2_with fail
    refine (FIN.out _ HB1.out).mono ?_
    rintro e w4 ⟨rfl, hb⟩
    have HB := Lib.hid hb
    clear hb
    go_wp2
    go_ret
    exact ⟨rfl, HB.out⟩
  · by_cases hn60 : (60 : Int) < (name.size : Int)
    · go_wp2_with fail
      refine (FIN.out _ HB1.out).mono ?_
      rintro e w4 ⟨rfl, hb⟩
      have HB := Lib.hid hb
      clear hb
      go_wp2
      go_ret
      exact ⟨rfl, HB.out⟩
    · obtain ⟨G0, c0, w4, hap, hown, hb4⟩ := copy_row c H1.out.l HA.out (by omega)
      have HAP := Lib.hid hap
      have HBA := Lib.hid (hb4.alloc hb4.size (.cells #[.string name] 9))
      have HB4 := Lib.hid (HB1.out.trans (hb4.mono HB1.out.size))
      have H4 := Lib.hid ((H1.out.keep hb4))
      have HOWN := Lib.hid (hown.alloc (.cells #[.string name] 9))
      have hsz4 : w3.heap.size ≤ w4.heap.size := hb4.size
      have HS4 := Lib.hid hsz4
      have HB5 := Lib.hid ((Below.refl w4.heap.size w4).alloc (Nat.le_refl _) (.cells #[.string name] 9))
      have HN5 := Lib.hid (one_new w4 name 9)
      clear hap hown hb4 hsz4
      go_wp2_with (first
        | (at_builtin; refine wpList_append_run rfl (.tmp 35) (.tmp 36) 22 rfl _ _ _ rfl rfl HAP.out ?_)
        | (at_builtin; refine wpList_append_own_at _ rfl (.tmp 37) (.tmp 39) 22 rfl w3.heap.size 9 i0 (.string ByteArray.empty) 1 16 Tryd.underlying22 hi0 hz0 hz1 hz2 rfl (by decide) (.slice G0 l.length c0) l.length (strs l) rfl HOWN.out ⟨w4.heap.size, 0, none⟩ 1 1 [.string name] rfl rfl HN5.out (by simp [Value.oneCell']) (by unfold maxLen; omega) (by omega) (by have := HS4.out; rw [World.size_alloc]; omega) ?_
           intro v' w6 hown6 hgr6 _ _
           obtain ⟨G, gc, rfl⟩ := row_slice hown6
           have HO6 := Lib.hid hown6
           have HG6 := Lib.hid hgr6
           have HB6 := Lib.hid (HBA.out.grown hgr6 HBA.out.size (fun k hk => row_base_lt HOWN.out hk))
           clear hown6 hgr6))
      have hsz : ∀ x ∈ l ++ [name], x.size ≤ 9223372036854775807 := by
        intro x hx
        rcases List.mem_append.1 hx with h | h
        · exact H1.out.l.size x h
        · obtain rfl : x = name := by simpa using h
          exact hs
      have ht6 := (own_txs (l := l ++ [name]) (by rw [show strs (l ++ [name]) = strs l ++ [Value.string name] from by simp [strs]]; exact HO6.out) hsz (by omega)).1
      have H6 := Lib.hid (show Tri w6 A G O l (l ++ [name]) other from ⟨H1.out.l.keep HB6.out, ht6, H1.out.o.keep HB6.out⟩)
      have HB7 := Lib.hid (HB1.out.trans (HB6.out.mono HB1.out.size))
      have HLN := Lib.hid (show (l ++ [name]).length = l.length + 1 by simp)
      clear ht6 hsz HAP HBA HB4 H4 HOWN HS4 HB5 HN5 HO6 HG6 HB6 HA hi0 hz0 hz1 hz2 h60 hn60
      refine (parent_yes w6 G gc (l.length + 1) l.length l name H6.out.k rfl rfl (by omega)).mono ?_
      rintro e w7 ⟨g, rfl, hg, hown, hb⟩
      have H7 := Lib.hid (H6.out.keep hb)
      have HO7 := Lib.hid (hown.txs H6.out.l.size (by omega))
      have HB8 := Lib.hid (HB7.out.trans (hb.mono HB7.out.size))
      clear hg hown hb H6 HB7
      go_wp2_with fail
      refine (before_at w7 A G c gc l.length (l.length + 1) l (l ++ [name]) rfl HLN.out H7.out.l H7.out.k).mono ?_
      rintro e w8 ⟨rfl, rfl⟩
      rw [bef_kid]
      go_wp2_with fail
      refine (before_at w8 G A gc c (l.length + 1) l.length (l ++ [name]) l HLN.out rfl H7.out.k H7.out.l).mono ?_
      rintro e w9 ⟨rfl, rfl⟩
      rw [bef_asym (bef_kid l name)]
      go_wp2_with fail
      refine (same_self w9 (some ⟨g, 0, none⟩) A l.length c l.length l rfl HO7.out H7.out.l).mono ?_
      rintro e w10 ⟨rfl, n10, hw10⟩
      have H10 := Lib.hid (show Tri w10 A G O l (l ++ [name]) other by rw [hw10]; exact H7.out.drewN n10)
      have HB10 := Lib.hid (show Below w.heap.size w w10 by rw [hw10]; exact below_drewN HB8.out n10)
      clear hw10 H7 HO7 HB8
      by_cases hlo : l.length ≤ other.length
      · have hlo1 : (l.length : Int) ≤ (other.length : Int) := by omega
        have hld : (l.length : Int) ≤ (d : Int) := by omega
        have hl0 : (0 : Int) ≤ (l.length : Int) := by omega
        have HTL := Lib.hid (show (other.take l.length).length = l.length by rw [List.length_take]; omega)
        go_wp2_with fail
        refine (same_at w10 O A d c l.length l.length (other.take l.length) l HTL.out rfl (H10.out.o.take _) H10.out.l).mono ?_
        rintro e w11 ⟨rfl, n11, hw11⟩
        have H11 := Lib.hid (show Tri w11 A G O l (l ++ [name]) other by rw [hw11]; exact H10.out.drewN n11)
        have HB11 := Lib.hid (show Below w.heap.size w w11 by rw [hw11]; exact below_drewN HB10.out n11)
        clear hw11 H10 HB10
        by_cases hq : other.take l.length = l
        · rw [decide_eq_true hq]
          clear hq
          go_wp2
          go_ret
          exact ⟨rfl, HB11.out⟩
        · rw [decide_eq_false hq]
          have HKP := Lib.hid (kids_past name hq)
          clear hq
          go_wp2_with fail
          refine (before_at w11 A O c d l.length other.length l other rfl rfl H11.out.l H11.out.o).mono ?_
          rintro e w12 ⟨rfl, rfl⟩
          rcases HKP.out with h | ⟨h, h2⟩
          · rw [h]
            clear h HKP
            go_wp2
            go_ret
            exact ⟨rfl, HB11.out⟩
          · rw [h]
            have HK2 := Lib.hid h2
            clear h h2 HKP
            go_wp2_with fail
            refine (before_at w12 G O gc d (l.length + 1) other.length (l ++ [name]) other HLN.out rfl H11.out.k H11.out.o).mono ?_
            rintro e w13 ⟨rfl, rfl⟩
            rw [HK2.out]
            clear HK2
            go_wp2
            go_ret
            exact ⟨rfl, HB11.out⟩
      · have hlo1 : ¬ (l.length : Int) ≤ (other.length : Int) := by omega
        have hq : other.take l.length ≠ l := fun h => by
          have := congrArg List.length h
          rw [List.length_take] at this
          omega
        have HKP := Lib.hid (kids_past name hq)
        clear hq
        go_wp2_with fail
        refine (before_at w10 A O c d l.length other.length l other rfl rfl H10.out.l H10.out.o).mono ?_
        rintro e w12 ⟨rfl, rfl⟩
        rcases HKP.out with h | ⟨h, h2⟩
        · rw [h]
          clear h HKP
          go_wp2
          go_ret
          exact ⟨rfl, HB10.out⟩
        · rw [h]
          have HK2 := Lib.hid h2
          clear h h2 HKP
          go_wp2_with fail
          refine (before_at w12 G O gc d (l.length + 1) other.length (l ++ [name]) other HLN.out rfl H10.out.k H10.out.o).mono ?_
          rintro e w13 ⟨rfl, rfl⟩
          rw [HK2.out]
          clear HK2
          go_wp2
          go_ret
          exact ⟨rfl, HB10.out⟩
end Pat
end Go.Proofs.YtobffegkdoefnaaDoor
