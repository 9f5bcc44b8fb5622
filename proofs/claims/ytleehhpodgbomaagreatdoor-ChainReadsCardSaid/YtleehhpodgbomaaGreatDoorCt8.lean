/- Texts laid together: VolRdev, VolPut, VolSlot, VolLives, VolWrote. -/
import Derived.Test.YtleehhpodgbomaaGreatDoorCt7
import Derived.Test.YtleehhpodgbomaaGreatDoorCt2
import Derived.Test.YtleehhpodgbomaaGreatDoorCt6
import Derived.Test.YtleehhpodgbomaaGreatDoorCt5
import Derived.Test.YtleehhpodgbomaaGreatDoorCt1
import Derived.Test.YtleehhpodgbomaaGreatDoorCt3
import Derived.Test.YtleehhpodgbomaaGreatDoorCt4
/- Law 15's Raw: a device of its words, and the document's volume of them. -/
namespace Go.Proofs.YtleehhpodgbomaaGreatDoor
open Go.RowKit Go.MapKept
namespace Vol

/-- a word behind the superblock -/
def rx (ws : List Nat) (i : Nat) : Nat := if ws.length = 0 then 0 else ws[i % ws.length]?.getD 0
/-- a raw device's words -/
def rawW (n m s E : Nat) (ws : List Nat) : List Nat := Sup.sb n m s ++ (List.range (E - 8)).map fun j => rx ws (8 + j)
theorem rx_lt {ws : List Nat} (h : ∀ x ∈ ws, x < 18446744073709551616) (i : Nat) : rx ws i < 18446744073709551616 := by
  unfold rx
  split
  · decide
  · rcases Nat.lt_or_ge (i % ws.length) ws.length with h1 | h1
    · rw [List.getElem?_eq_getElem h1]
      exact h _ (List.getElem_mem h1)
    · rw [List.getElem?_eq_none h1]
      decide
section
variable {n m s sl bm bk E : Nat} {ws : List Nat}
theorem rawW_len (h : Pl n m s sl bm bk E) : (rawW n m s E ws).length = E := by
  unfold rawW
  rw [List.length_append, Sup.sb_len, List.length_map, List.length_range]
  have := h.at
  have := h.n20
  omega
theorem rawW_u64 (h : Pl n m s sl bm bk E) (hw : ∀ x ∈ ws, x < 18446744073709551616) : ∀ x ∈ rawW n m s E ws, x < 18446744073709551616 := by
  intro x hx
  rcases List.mem_append.1 hx with hx | hx
  · exact Sup.sb_u64 (by have := h.n20; omega) (by have := h.m20; omega) (by have := h.s2; omega) x hx
  · obtain ⟨j, _, rfl⟩ := List.mem_map.1 hx
    exact rx_lt hw _
theorem rawW_eight : (rawW n m s E ws).take 8 = Sup.sb n m s := by
  unfold rawW
  rw [List.take_left' (Sup.sb_len _ _ _)]
theorem rawW_step (h : Pl n m s sl bm bk E) {i : Nat} (h8 : 8 ≤ i) (hi : i < E) : (rawW n m s E ws).take (i + 1) = (rawW n m s E ws).take i ++ [rx ws i] := by
  have hl := rawW_len (ws := ws) h
  rw [List.take_succ_eq_append_getElem (by omega)]
  congr 2
  unfold rawW
  rw [List.getElem_append_right (by rw [Sup.sb_len]; exact h8)]
  simp only [List.getElem_map, List.getElem_range, Sup.sb_len]
  rw [show 8 + (i - 8) = i by omega]
theorem rawW_read (h : Pl n m s sl bm bk E) : rdw (rawW n m s E ws) 0 8 = Sup.sb n m s := by
  rw [rdw_slice (by rw [rawW_len h]; have := h.at; omega), List.drop_zero, rawW_eight]

/-- the boxes beside the row of words -/
structure Rl (w : World) (b : Nat) (RC VC WC : Array Value) (wr : World) : Prop where
  raw : Hb wr w.heap.size RC 24
  res : Hb wr (w.heap.size + 1) VC 30
  vol : Hb wr b WC 30
  below : Below w.heap.size w wr
theorem Rl.keep {w wr w' : World} {b : Nat} {RC VC WC : Array Value} (h : Rl w b RC VC WC wr) (hb : Below wr.heap.size wr w') : Rl w b RC VC WC w' :=
  ⟨h.raw.keep hb, h.res.keep hb, h.vol.keep hb, h.below.trans (hb.mono h.below.size)⟩
theorem Rl.grown {w wr w' : World} {b nn : Nat} {v : Value} {xs : List Value} {RC VC WC : Array Value} (h : Rl w b RC VC WC wr) (ho : wr.ownsRow w.heap.size 71 1 v nn xs) (hg : wr.grownBy w' v.ownBlock) : Rl w b RC VC WC w' :=
  ⟨hb_grown h.raw hg (hb_apart h.raw ho (by decide)), hb_grown h.res hg (hb_apart h.res ho (by decide)), hb_grown h.vol hg (hb_apart h.vol ho (by decide)),
    h.below.grown hg h.below.size (fun k hk => Pack.row_base_lt ho hk)⟩

set_option maxHeartbeats 4000000 in
set_option maxRecDepth 100000 in
theorem rdev_any (w : World) (x y k : Nat) (hx : x < 256) (hy : y < 256) (hk : k < 256) (A : Option Addr) (c : Nat) (hws : Pack.Wds w A ws) (h : Pl (gn x) (gn y) (gs k) sl bm bk E) :
    Calls Tryz.prog 27 #[.agg #[.int .u8 (x : Int), .int .u8 (y : Int), .int .u8 (k : Int), .slice A ws.length c]] w fun r w' =>
      ∃ a g gc B : Nat, r = .returned (.tuple #[.pointer (some ⟨a, 0, none⟩), .agg (dv (gn x) (gn y) (gs k) sl bm bk E (.slice (some ⟨g, 0, none⟩) E gc))]) ∧ w.heap.size ≤ B ∧ (w.heap.size ≤ g ∧ g < B) ∧ B ≤ w'.heap.size ∧ E ≤ gc ∧
        Up (fun q => q < B) w' a (rawW (gn x) (gn y) (gs k) E ws) 0 0 ∧ Pack.Wds w' (some ⟨g, 0, none⟩) (rawW (gn x) (gn y) (gs k) E ws) ∧ Below w.heap.size w w' := by
  have HG := Lib.hid (fun w => rgeo_any w x y k hx hy hk (.slice A ws.length c))
  have HP := Lib.hid h
  have HE := Lib.hid (fun w => Sup.refEncode_yes w (gn x) (gn y) (gs k) h.may)
  have HO := Lib.hid (fun w => refOf_any w h)
  have HW := Lib.hid hws
  have HH := Lib.hid (show x < 256 ∧ y < 256 ∧ k < 256 from ⟨hx, hy, hk⟩)
  obtain ⟨n, hn⟩ : ∃ n, n = gn x := ⟨_, rfl⟩
  obtain ⟨m, hm⟩ : ∃ m, m = gn y := ⟨_, rfl⟩
  obtain ⟨s, hs⟩ : ∃ s, s = gs k := ⟨_, rfl⟩
  rw [← hn, ← hm, ← hs] at HG HP HE HO ⊢
  clear hn hm hs h hx hy hk hws
  go_enter Tryz.func27, Tryz.ntmps27
  have HR0 := Lib.hid (hb_new w #[.int .u8 (x : Int), .int .u8 (y : Int), .int .u8 (k : Int), .slice A ws.length c] 24)
  have HB0 := Lib.hid ((Below.refl w.heap.size w).alloc (Nat.le_refl _) (.cells #[.int .u8 (x : Int), .int .u8 (y : Int), .int .u8 (k : Int), .slice A ws.length c] 24))
  have HZ0 := Lib.hid (World.size_alloc w (.cells #[.int .u8 (x : Int), .int .u8 (y : Int), .int .u8 (k : Int), .slice A ws.length c] 24))
  go_wp2_with fail
  generalize w.alloc (.cells #[.int .u8 (x : Int), .int .u8 (y : Int), .int .u8 (k : Int), .slice A ws.length c] 24) = w0 at *
  have hb1 := (Below.refl w0.heap.size w0).alloc (Nat.le_refl _) (.cells #[.int .i64 0, .int .i64 0, .int .i64 0, .int .i64 0, .int .i64 0, .int .i64 0, .int .i64 0, .int .i64 0, .slice none 0 0] 30)
  have hn1 := hb_new w0 #[.int .i64 0, .int .i64 0, .int .i64 0, .int .i64 0, .int .i64 0, .int .i64 0, .int .i64 0, .int .i64 0, .slice none 0 0] 30
  rw [HZ0.out] at hn1
  have HR1 := Lib.hid (HR0.out.keep hb1)
  have HV1 := Lib.hid hn1
  have HB1 := Lib.hid (HB0.out.trans (hb1.mono HB0.out.size))
  clear hb1 hn1 HR0 HB0 HZ0
  generalize w0.alloc (.cells #[.int .i64 0, .int .i64 0, .int .i64 0, .int .i64 0, .int .i64 0, .int .i64 0, .int .i64 0, .int .i64 0, .slice none 0 0] 30) = w1 at *
  clear w0
  refine (HG.out _).mono ?_
  rintro r w2 ⟨rfl, hb⟩
  have HR2 := Lib.hid (HR1.out.keep hb)
  have HV2 := Lib.hid (HV1.out.keep hb)
  have HB2 := Lib.hid (HB1.out.trans (hb.mono HB1.out.size))
  clear hb HR1 HV1 HB1 HG
  go_wp2_with fail
  have hb3 := (Below.refl w2.heap.size w2).alloc (Nat.le_refl _) (.cells #[.int .i64 (n : Int), .int .i64 (m : Int), .int .i64 (s : Int)] 80)
  have HG3 := Lib.hid (hb_new w2 #[.int .i64 (n : Int), .int .i64 (m : Int), .int .i64 (s : Int)] 80)
  have HR3 := Lib.hid (HR2.out.keep hb3)
  have HV3 := Lib.hid (HV2.out.keep hb3)
  have HB3 := Lib.hid (HB2.out.trans (hb3.mono HB2.out.size))
  have hz3 := World.size_alloc w2 (.cells #[.int .i64 (n : Int), .int .i64 (m : Int), .int .i64 (s : Int)] 80)
  have HL3 := Lib.hid (show w.heap.size + 1 < w2.heap.size from HV2.out.lt)
  clear hb3 HR2 HV2 HB2
  generalize w2.alloc (.cells #[.int .i64 (n : Int), .int .i64 (m : Int), .int .i64 (s : Int)] 80) = w3 at *
  generalize w2.heap.size = b2 at *
  clear w2 hz3
  refine (HE.out _).mono ?_
  rintro r w4 ⟨G, gc, rfl, hwd, hb⟩
  obtain ⟨gb, go, rfl, hgl, _⟩ := hwd.at' 0 (by rw [Sup.sb_len]; omega)
  have HD4 := Lib.hid hwd
  have HG4 := Lib.hid (HG3.out.keep hb)
  have HR4 := Lib.hid (HR3.out.keep hb)
  have HV4 := Lib.hid (HV3.out.keep hb)
  have HB4 := Lib.hid (HB3.out.trans (hb.mono HB3.out.size))
  clear hwd hb HG3 HR3 HV3 HB3 HE
  have q0 := HG4.out.cell 0
  have q1 := HG4.out.cell 1
  have q2 := HG4.out.cell 2
  go_wp2_with fail
  refine (HO.out _).mono ?_
  rintro r w5 ⟨rfl, hb⟩
  clear q0 q1 q2
  have hb5 := hb.alloc hb.size (.cells (dv n m s sl bm bk E (.slice none 0 0)) 30)
  have HW5 := Lib.hid (hb_new w5 (dv n m s sl bm bk E (.slice none 0 0)) 30)
  have HZ5 := Lib.hid (World.size_alloc w5 (.cells (dv n m s sl bm bk E (.slice none 0 0)) 30))
  have HS5 := Lib.hid hb.size
  have HD5 := Lib.hid (HD4.out.keep hb5)
  have HR5 := Lib.hid (HR4.out.keep hb5)
  have HV5 := Lib.hid (HV4.out.keep hb5)
  have HB5 := Lib.hid (HB4.out.trans (hb5.mono HB4.out.size))
  have HL4 := Lib.hid (show w.heap.size + 1 < w4.heap.size from HV4.out.lt)
  clear hb hb5 HG4 HR4 HV4 HB4 HO HD4 hgl
  unfold dv at HD5 HR5 HV5 HB5 HW5 HZ5 ⊢
  obtain ⟨i1, hi1, hy0, hy1, hy2⟩ := info_parts Pack.u64_info
  have hown6 : ((w5.alloc (.cells #[.int .i64 (n : Int), .int .i64 (m : Int), .int .i64 (s : Int), .int .i64 16, .int .i64 (sl : Int), .int .i64 (bm : Int), .int .i64 (bk : Int), .int .i64 (E : Int), .slice none 0 0] 30)).alloc (.cells #[] 71)).ownsRow w.heap.size 71 1 (.slice (some ⟨w5.heap.size + 1, 0, none⟩) 0 0) 0 [] := by
    have h1 := HL4.out
    have h2 := HS5.out
    refine ⟨by simp, .inr ⟨w5.heap.size + 1, 0, #[], rfl, by omega, ?_, Nat.le_refl _, by unfold maxLen; omega, rfl, rfl⟩⟩
    have := (heap_alloc (w5.alloc (.cells #[.int .i64 (n : Int), .int .i64 (m : Int), .int .i64 (s : Int), .int .i64 16, .int .i64 (sl : Int), .int .i64 (bm : Int), .int .i64 (bk : Int), .int .i64 (E : Int), .slice none 0 0] 30)) (.cells #[] 71)).1
    rw [HZ5.out] at this
    exact this
  have HO6 := Lib.hid hown6
  have hcell6 := Bm.wds_news (HD5.out.alloc (.cells #[] 71))
  have HC6 := Lib.hid hcell6
  have HR6 := Lib.hid (HR5.out.keep ((Below.refl _ _).alloc (Nat.le_refl _) (.cells #[] 71)))
  have HV6 := Lib.hid (HV5.out.keep ((Below.refl _ _).alloc (Nat.le_refl _) (.cells #[] 71)))
  have HW6 := Lib.hid (HW5.out.keep ((Below.refl _ _).alloc (Nat.le_refl _) (.cells #[] 71)))
  have HB6 := Lib.hid (HB5.out.alloc HB5.out.size (.cells #[] 71))
  have HL5 := Lib.hid (show w.heap.size + 1 < w5.heap.size by have h1 := HL4.out; have h2 := HS5.out; omega)
  clear hown6 hcell6 HD5 HR5 HV5 HB5 HW5 HZ5 HL4 HS5 HL3
  go_wp2_with (at_builtin
               refine wpList_append_own_at _ rfl (.tmp 30) (.tmp 31) 22 rfl w.heap.size 71 i1 (.int .u64 0) 1 8 Tryz.underlying22 hi1 hy0 hy1 hy2 rfl (by decide) (.slice (some ⟨w5.heap.size + 1, 0, none⟩) 0 0) 0 [] rfl HO6.out ⟨gb, go, none⟩ 8 gc (Pack.u64s (Sup.sb n m s)) rfl (by simp [Pack.u64s, Sup.sb_len]) HC6.out (Bm.u64s_one _) (by unfold maxLen; omega) (by omega) (by simp; have := HL5.out; omega) ?_
               intro v7 w7 hown7 hgr7 _ hat7
               obtain ⟨G7, c7, rfl⟩ := Pack.row_slice hown7
               have HO7 := Lib.hid hown7
               have HR7 := Lib.hid (hb_grown HR6.out hgr7 (by simp only [Value.ownBlock, ne_eq, Option.some.injEq]; have := HL5.out; omega))
               have HV7 := Lib.hid (hb_grown HV6.out hgr7 (by simp only [Value.ownBlock, ne_eq, Option.some.injEq]; have := HL5.out; omega))
               have HW7 := Lib.hid (hb_grown HW6.out hgr7 (by simp only [Value.ownBlock, ne_eq, Option.some.injEq]; omega))
               have HB7 := Lib.hid (HB6.out.grown hgr7 (by simp; have := HL5.out; omega) (fun k hk => by simp only [Value.ownBlock, Option.some.injEq] at hk; have := HL5.out; omega))
               clear hown7 hgr7 hat7 HO6 HC6 HR6 HV6 HW6 HB6)
  generalize hb5 : w5.heap.size = b5 at *
  have HRL := Lib.hid (show Rl w b5 _ _ _ w7 from ⟨HR7.out, HV7.out, HW7.out, HB7.out⟩)
  have HLB := Lib.hid HL5.out
  clear HR7 HV7 HW7 HB7 HL5 hb5
  have hpat := HP.out.at
  have hp20 := HP.out.n20
  have HE8 := Lib.hid (show 8 ≤ E ∧ E ≤ 540 by omega)
  clear hpat hp20
  go_loopw [8, 9] (fun v i wr => ∃ (t : Nat) (G : Option Addr) (gc : Nat), 8 ≤ t ∧ t ≤ E ∧ i = .int .i64 (t : Int) ∧ v = .slice G t gc ∧ wr.ownsRow w.heap.size 71 1 (.slice G t gc) t (Pack.u64s ((rawW n m s E ws).take t)) ∧ Rl w b5 #[.int .u8 (x : Int), .int .u8 (y : Int), .int .u8 (k : Int), .slice A ws.length c] #[.int .i64 0, .int .i64 0, .int .i64 0, .int .i64 0, .int .i64 0, .int .i64 0, .int .i64 0, .int .i64 0, .slice none 0 0] #[.int .i64 (n : Int), .int .i64 (m : Int), .int .i64 (s : Int), .int .i64 16, .int .i64 (sl : Int), .int .i64 (bm : Int), .int .i64 (bk : Int), .int .i64 (E : Int), .slice none 0 0] wr) (fun _ i _ => E - (intOf i).toNat)
  case atStart => exact ⟨8, G7, c7, Nat.le_refl _, HE8.out.1, rfl, rfl, by rw [rawW_eight]; simpa using HO7.out, HRL.out⟩
  case round =>
    obtain ⟨t, G, gc', ht8, htE, rfl, rfl, hown, hrl⟩ := hrel
    have HOW := Lib.hid hown
    have HS := Lib.hid hrl
    clear HRL hown hrl HO7
    have v7 := HS.out.vol.cell 7
    have r3 := HS.out.raw.cell 3
    by_cases hlt : t < E
    · have HST := Lib.hid (rawW_step (ws := ws) HP.out ht8 hlt)
      have hxl := rx_lt HW.out.u64 t
      have hsz := HS.out.below.size
      have hE := HE8.out.2
      have hi2 : (t : Int) < (E : Int) := by omega
      by_cases hw0 : ws.length = 0
      · have hx0 : rx ws t = 0 := by unfold rx; rw [if_pos hw0]
        rw [hx0] at HST
        have HO := Lib.hid (HOW.out.alloc (.cells #[.int .u64 0] 71))
        have HB := Lib.hid (HS.out.keep ((Below.refl _ _).alloc (Nat.le_refl _) (.cells #[.int .u64 0] 71)))
        have hg0 : decide (0 < ws.length) = false := by simp [hw0]
        clear hxl hx0 hw0
        go_wp2_with (at_builtin
                     refine wpList_append_own_at _ rfl (.tmp 55) (.tmp 57) 22 rfl w.heap.size 71 i1 (.int .u64 0) 1 8 Tryz.underlying22 hi1 hy0 hy1 hy2 rfl (by decide) (.slice G t gc') t (Pack.u64s ((rawW n m s E ws).take t)) rfl HO.out ⟨wr.heap.size, 0, none⟩ 1 1 [.int .u64 0] rfl rfl (cell_one_new _ _ _) (by simp [Value.oneCell']) (by unfold maxLen; omega) (by omega) (by simp; omega) ?_
                     intro v' w9 hown9 hgr9 _ hat9
                     obtain ⟨G9, c9, rfl⟩ := Pack.row_slice hown9
                     have HO9 := Lib.hid hown9
                     have HB9 := Lib.hid (HB.out.grown HO.out hgr9)
                     clear hown9 hgr9 hat9)
        go_roundw
        case rel =>
          refine ⟨t + 1, G9, c9, by omega, by omega, by go_num, rfl, ?_, HB9.out⟩
          rw [HST.out]
          unfold Pack.u64s
          rw [List.map_append]
          exact HO9.out
        case measure => simp [intOf]; omega
      · obtain ⟨q, hq⟩ : ∃ q, q = t % ws.length := ⟨_, rfl⟩
        have hql : q < ws.length := by rw [hq]; exact Nat.mod_lt _ (by omega)
        have hx0 : rx ws t = ws[q] := by unfold rx; rw [if_neg hw0, ← hq, List.getElem?_eq_getElem hql]; rfl
        obtain ⟨ab, ao, rfl, hab, hac⟩ := HW.out.at' q hql
        have hac := (HS.out.below.cell (p := ⟨ab, ao + q, none⟩) hab).trans hac
        have hqi : (t : Int) % (ws.length : Int) = (q : Int) := by rw [hq]; simp
        have hg0 : decide (0 < ws.length) = true := by simp; omega
        have hg1 : (0 : Int) < (ws.length : Int) := by omega
        have hne : ((ws.length : Int) == 0) = false := beq_eq_false_iff_ne.2 (by omega)
        have hq0 : (0 : Int) ≤ (q : Int) := by omega
        have hq1 : (q : Int) < (ws.length : Int) := by omega
        rw [hx0] at HST
        generalize ws[q] = z at *
        have HO := Lib.hid (show (wr.alloc (.cells #[.int .u64 (z : Int)] 71)).drew.ownsRow w.heap.size 71 1 (.slice G t gc') t (Pack.u64s ((rawW n m s E ws).take t)) from HOW.out.alloc (.cells #[.int .u64 (z : Int)] 71))
        have hbd := (Below.refl wr.heap.size wr).alloc (Nat.le_refl _) (.cells #[.int .u64 (z : Int)] 71)
        have HB := Lib.hid (HS.out.keep (show Below wr.heap.size wr (wr.alloc (.cells #[.int .u64 (z : Int)] 71)).drew from ⟨hbd.os, hbd.tape, hbd.output, hbd.size, hbd.block⟩))
        clear hbd
        clear hxl hx0 hq hw0
        go_wp2_with fail
        go_region
        go_wp2_with (at_builtin
                     refine wpList_append_own_at _ rfl (.tmp 55) (.tmp 57) 22 rfl w.heap.size 71 i1 (.int .u64 0) 1 8 Tryz.underlying22 hi1 hy0 hy1 hy2 rfl (by decide) (.slice G t gc') t (Pack.u64s ((rawW n m s E ws).take t)) rfl HO.out ⟨wr.heap.size, 0, none⟩ 1 1 [.int .u64 (z : Int)] rfl rfl (show ∀ j u, _ → (wr.alloc (.cells #[.int .u64 (z : Int)] 71)).drew.cell? _ = some u from cell_one_new wr _ _) (by simp [Value.oneCell']) (by unfold maxLen; omega) (by omega) (by simp; omega) ?_
                     intro v' w9 hown9 hgr9 _ hat9
                     obtain ⟨G9, c9, rfl⟩ := Pack.row_slice hown9
                     have HO9 := Lib.hid hown9
                     have HB9 := Lib.hid (HB.out.grown HO.out hgr9)
                     clear hown9 hgr9 hat9)
        go_roundw
        case rel =>
          refine ⟨t + 1, G9, c9, by omega, by omega, by go_num, rfl, ?_, HB9.out⟩
          rw [HST.out]
          unfold Pack.u64s
          rw [List.map_append]
          exact HO9.out
        case measure => simp [intOf]; omega
    · obtain rfl : t = E := by omega
      have hlen := rawW_len (ws := ws) HP.out
      have hE := HE8.out.2
      rw [List.take_of_length_le (by rw [hlen]; exact Nat.le_refl _)] at HOW
      obtain ⟨g, gc2, hsl⟩ := Pm.row_form HOW.out (by omega)
      injection hsl with h1 h2 h3
      subst h1 h3
      have hwd := Pack.own_wds HOW.out (rawW_u64 HP.out HW.out.u64) (by omega)
      have hcap := Pack.row_cap HOW.out
      have hg := Pack.row_base_lt HOW.out (g := g) rfl
      obtain ⟨g2, he2, hgl, _⟩ := Pack.own_cells HOW.out 0 (by omega)
      injection he2 with he2
      injection he2 with he2
      subst he2
      have hgb : g ≠ b5 := fun e => hb_apart HS.out.vol HOW.out (by decide) (by rw [e]; rfl)
      have hvf := HS.out.vol.frozen 8
      have v8 := HS.out.vol.cell 8
      have HV := Lib.hid (HS.out.vol.set 8 (.slice (some ⟨g, 0, none⟩) t gc'))
      have hbl := HS.out.vol.lt
      have hwd2 := wds_block (w' := wr.setCell ⟨b5, 8, none⟩ (.slice (some ⟨g, 0, none⟩) t gc')) hwd (Below.heap_setCell _ _ _ _ hgb)
      have HOF := Lib.hid (fun (W : World) (e : W.heap = (wr.setCell ⟨b5, 8, none⟩ (.slice (some ⟨g, 0, none⟩) t gc')).heap) => show Calls Tryz.prog 54 #[.slice (some ⟨g, 0, none⟩) t gc'] W _ from by
        have hof := of_any (w := W) g gc' _ (wds_block hwd2 (by rw [e])) (by rw [e]; simpa [World.setCell] using hgl) (by rw [hlen]; exact hcap) (by rw [hlen]; omega) (by rw [hlen]; omega)
        rw [hlen] at hof
        exact hof)
      have HWD := Lib.hid hwd2
      have hszz : (wr.setCell ⟨b5, 8, none⟩ (.slice (some ⟨g, 0, none⟩) t gc')).heap.size = wr.heap.size := by simp [World.setCell]
      have HRS := Lib.hid (HS.out.res.far (p := ⟨b5, 8, none⟩) (by show w.heap.size + 1 ≠ b5; have := HLB.out; omega) (.slice (some ⟨g, 0, none⟩) t gc'))
      have HBL := Lib.hid (HS.out.below.setCell (p := ⟨b5, 8, none⟩) (by show w.heap.size ≤ b5; have := HLB.out; omega) (.slice (some ⟨g, 0, none⟩) t gc'))
      have HGS := Lib.hid hgl
      have HGB := Lib.hid (show w.heap.size ≤ g ∧ g ≠ w.heap.size + 1 from ⟨hg, fun e => hb_apart HS.out.res HOW.out (by decide) (by rw [e]; rfl)⟩)
      have HCP := Lib.hid hcap
      clear hwd2 hwd hcap hg hgl hgb hlen
      go_wp2_with fail
      generalize hW2 : wr.setCell ⟨b5, 8, none⟩ (.slice (some ⟨g, 0, none⟩) t gc') = w2 at *
      clear hW2
      have v0 := HV.out.cell 0
      have v1 := HV.out.cell 1
      have v2 := HV.out.cell 2
      have v3 := HV.out.cell 3
      have v4 := HV.out.cell 4
      have v5 := HV.out.cell 5
      have v6 := HV.out.cell 6
      have v7' := HV.out.cell 7
      have v8' := HV.out.cell 8
      clear v7 r3 v8 hvf
      have hne1 : ¬ b5 = w.heap.size + 1 := by have := HLB.out; omega
      have hne2 : ¬ w.heap.size + 1 = b5 := by have := HLB.out; omega
      go_region_held3 (fun W' => W'.cell? ⟨b5, 0, none⟩ = some (.int .i64 (n : Int)) ∧ W'.cell? ⟨b5, 1, none⟩ = some (.int .i64 (m : Int)) ∧ W'.cell? ⟨b5, 2, none⟩ = some (.int .i64 (s : Int)) ∧ W'.cell? ⟨b5, 3, none⟩ = some (.int .i64 16) ∧ W'.cell? ⟨b5, 4, none⟩ = some (.int .i64 (sl : Int)) ∧ W'.cell? ⟨b5, 5, none⟩ = some (.int .i64 (bm : Int)) ∧ W'.cell? ⟨b5, 6, none⟩ = some (.int .i64 (bk : Int)) ∧ W'.cell? ⟨b5, 7, none⟩ = some (.int .i64 (t : Int)) ∧ W'.cell? ⟨b5, 8, none⟩ = some (.slice (some ⟨g, 0, none⟩) t gc')) (go_keep)
        (first
        | (go_at_call 54
           with_reducible refine (HOF.out w2.drew rfl).mono ?_
           rintro r w8 ⟨a, rfl, hup, hb⟩
           have HU := Lib.hid hup
           have HB8 := Lib.hid hb
           have hbk := hb.size
           have HV8 := Lib.hid ((show Hb w2.drew b5 _ _ from HV.out).keep hb)
           have HR8 := Lib.hid ((show Hb w2.drew (w.heap.size + 1) _ _ from HRS.out).keep hb)
           clear hup hb
           have c0 := HV8.out.cell 0
           have c1 := HV8.out.cell 1
           have c2 := HV8.out.cell 2
           have c3 := HV8.out.cell 3
           have c4 := HV8.out.cell 4
           have c5 := HV8.out.cell 5
           have c6 := HV8.out.cell 6
           have c7' := HV8.out.cell 7
           have c8 := HV8.out.cell 8
           have d0 := HR8.out.cell 0
           have d1 := HR8.out.cell 1
           have d2 := HR8.out.cell 2
           have d3 := HR8.out.cell 3
           have d4 := HR8.out.cell 4
           have d5 := HR8.out.cell 5
           have d6 := HR8.out.cell 6
           have d7 := HR8.out.cell 7
           have d8 := HR8.out.cell 8
           have f0 := HR8.out.frozen 0
           have f1 := HR8.out.frozen 1
           have f2 := HR8.out.frozen 2
           have f3 := HR8.out.frozen 3
           have f4 := HR8.out.frozen 4
           have f5 := HR8.out.frozen 5
           have f6 := HR8.out.frozen 6
           have f7 := HR8.out.frozen 7
           have f8 := HR8.out.frozen 8
           have hvl := HV8.out.lt
           have hrl := HR8.out.lt))
      go_wp2
      have hdr : w2.drew.heap.size = w2.heap.size := rfl
      have hq1 : w.heap.size + 1 < w2.drew.heap.size := by rw [hdr]; have := HRS.out.lt; omega
      have hg1 := HGB.out
      have hg2 := HGS.out
      refine bodyPost_ret (v := .tuple #[.pointer (some ⟨a, 0, none⟩), .agg (dv n m s sl bm bk t (.slice (some ⟨g, 0, none⟩) t gc'))]) ?_ rfl ⟨a, g, gc', w2.drew.heap.size, rfl, by omega, ⟨hg1.1, by omega⟩, ?_, HCP.out, ?_, ?_, ?_⟩
      · unfold dv
        simp [results, Tryz.results27, go_sem, d0, d1, d2, d3, d4, d5, d6, d7, d8]
      · simpa [World.setCell] using hbk
      · iterate 9 refine Up.put ?_ hq1 _
        exact HU.out
      · iterate 9 refine wds_block ?_ (Below.heap_setCell _ _ _ _ hg1.2)
        exact HWD.out.keep (show Below w2.heap.size w2 w8 from ⟨HB8.out.os, HB8.out.tape, HB8.out.output, HB8.out.size, HB8.out.block⟩)
      · iterate 9 refine Below.setCell ?_ (Nat.le_succ _) _
        exact HBL.out.trans ((show Below w2.heap.size w2 w8 from ⟨HB8.out.os, HB8.out.tape, HB8.out.output, HB8.out.size, HB8.out.block⟩).mono HBL.out.size)
end
end Vol
end Go.Proofs.YtleehhpodgbomaaGreatDoor
/- The document's Put: words from one on, and how many lines they have. -/
namespace Go.Proofs.YtleehhpodgbomaaGreatDoor
open Go.RowKit Go.MapKept
namespace Vol

theorem lc_step (a k : Nat) : lc a (k + 1) = lc a k + if k = 0 ∨ (a + k) % 8 = 0 then 1 else 0 := rfl
theorem row_to_wds {w : World} {g n : Nat} {l : List Nat} (h : Bm.Row w g 71 n (fun j => .int .u64 ((l[j]?.getD 0 : Nat) : Int))) (hl : l.length = n) (hn : n ≤ 9223372036854775807) (hu : ∀ x ∈ l, x < 18446744073709551616) : Pack.Wds w (some ⟨g, 0, none⟩) l :=
  ⟨hu, by omega, fun j hj => ⟨g, 0, rfl, h.lt, by
    rw [Nat.zero_add, h.cell (by omega), List.getElem?_eq_getElem hj]
    rfl⟩⟩

/-- the copy, up to the k-th word; the boxes beside it -/
structure Cp (w : World) (g E at0 k : Nat) (W l : List Nat) (XC VC : Array Value) (wr : World) : Prop where
  row : Bm.Row wr g 71 E (fun j => .int .u64 (((puts W ((sto at0 l).take k))[j]?.getD 0 : Nat) : Int))
  box : Hb wr w.heap.size XC 30
  res : Hb wr (w.heap.size + 1) VC 30
  below : Below w.heap.size w wr
theorem Cp.set {w wr : World} {g E at0 k : Nat} {W l : List Nat} {XC VC : Array Value} (h : Cp w g E at0 k W l XC VC wr) (hg : w.heap.size + 1 + 1 ≤ g) (hk : k < l.length) (hat : at0 + l.length ≤ W.length) {x : Nat} (hx : l[k]?.getD 0 = x) :
    Cp w g E at0 (k + 1) W l XC VC (wr.setCell ⟨g, at0 + k, none⟩ (.int .u64 (x : Int))) := by
  refine ⟨(h.row.set (at0 + k) _).congr (fun j hj => ?_), h.box.far (by show w.heap.size ≠ g; omega) _, h.res.far (by show w.heap.size + 1 ≠ g; omega) _, h.below.setCell (by show w.heap.size ≤ g; omega) _⟩
  rw [puts_get W at0 l hat (k + 1) (by omega)]
  by_cases e : j = at0 + k
  · subst e
    rw [if_pos rfl, if_pos (by omega), Nat.add_sub_cancel_left, hx]
  · rw [if_neg e, puts_get W at0 l hat k (by omega)]
    by_cases h1 : at0 ≤ j ∧ j < at0 + k
    · rw [if_pos h1, if_pos (by omega)]
    · rw [if_neg h1, if_neg (by omega)]

section
variable {w : World} {n m s sl bm bk E : Nat}
end
end Vol
end Go.Proofs.YtleehhpodgbomaaGreatDoor
/- A volume's slots: read and written. -/
namespace Go.Proofs.YtleehhpodgbomaaGreatDoor
open Go.RowKit Go.MapKept
namespace Vol
section
variable {Q Q' : Nat → Prop} {w w' : World} {vb a n m s : Nat} {W : List Nat} {st sn : Nat}

/-- where a volume's parts are -/
theorem Vo.num (h : Vo Q w vb a n m s W st sn) : (1 ≤ (n : Int) ∧ (n : Int) ≤ 65534) ∧ (1 ≤ (m : Int) ∧ (m : Int) ≤ 65534) ∧ Geo.Sz s := (Geo.may_num h.may).1

set_option maxHeartbeats 4000000 in
set_option maxRecDepth 100000 in
theorem slot_no (h : Vo Q w vb a n m s W st sn) (i : Int) (hi : i < 0 ∨ (n : Int) ≤ i) :
    Calls Tryz.prog 30 #[.pointer (some ⟨vb, 0, none⟩), .int .i64 i] w fun r w' => r = .returned (.tuple #[.agg #[.int .i64 0, .int .i64 0, .int .i64 0], .int .i64 9]) ∧ Below w.heap.size w w' := by
  obtain ⟨c0, c1, c2, c3⟩ := h.cells
  have hlt := h.lt
  have HP := Lib.hid (fun w => show Calls Tryz.prog 39 #[.agg #[.int .i64 n, .int .i64 m, .int .i64 s], .int .i64 i] w _ from by
    have hp := Geo.slot_any w (n : Int) (m : Int) (s : Int) i
    rw [Geo.plc_out (by omega)] at hp
    exact hp)
  have HN := Lib.hid (fun w => isNone_any w (-1))
  have HX := Lib.hid (Lin.owned w 0 0 0 42)
  have HB0 := Lib.hid ((Below.refl w.heap.size w).alloc (Nat.le_refl _) (.cells #[.int .i64 0, .int .i64 0, .int .i64 0] 42))
  clear h hi
  go_enter Tryz.func30, Tryz.ntmps30
  go_wp2_with fail
  generalize w.alloc (.cells #[.int .i64 0, .int .i64 0, .int .i64 0] 42) = w0 at *
  refine (HP.out _).mono ?_
  rintro r w1 ⟨rfl, hb⟩
  have HB := Lib.hid (HB0.out.trans (hb.mono HB0.out.size))
  have HX1 := Lib.hid (HX.out.keep hb)
  clear hb HP HX
  go_wp2_with fail
  refine (HN.out _).mono ?_
  rintro r w2 ⟨rfl, rfl⟩
  have hc0 := HX1.out.box.c0
  have hc1 := HX1.out.box.c1
  have hc2 := HX1.out.box.c2
  have hf0 := HX1.out.f 0
  have hf1 := HX1.out.f 1
  have hf2 := HX1.out.f 2
  have hl1 := HX1.out.box.lt
  go_wp2
  refine bodyPost_ret (v := .tuple #[.agg #[.int .i64 0, .int .i64 0, .int .i64 0], .int .i64 9]) ?_ rfl ⟨rfl, ?_⟩
  · simp [results, Tryz.results30, go_sem, hc0, hc1, hc2]
  · exact ((HB.out.setCell (Nat.le_refl _) _).setCell (Nat.le_refl _) _).setCell (Nat.le_refl _) _

theorem gv_three (q : Option (Nat × Nat × Nat)) : ∃ x y z : Int, Slo.gv q = .agg #[.int .i64 x, .int .i64 y, .int .i64 z] := by
  cases q with
  | none => exact ⟨0, 0, 0, rfl⟩
  | some t => exact ⟨_, _, _, rfl⟩
theorem at_lt {W : List Nat} (h : ∀ x ∈ W, x < 18446744073709551616) (p : Nat) : W[p]?.getD 0 < 18446744073709551616 := by
  rcases Nat.lt_or_ge p W.length with h1 | h1
  · rw [List.getElem?_eq_getElem h1]
    exact h _ (List.getElem_mem h1)
  · rw [List.getElem?_eq_none h1]
    decide
theorem pos_not (p : Nat) : decide ((p : Int) < 0) = false := decide_eq_false (by omega)
theorem slot_place (h : Vo Q w vb a n m s W st sn) (i : Nat) (hi : i < n) (w' : World) : Calls Tryz.prog 39 #[.agg #[.int .i64 n, .int .i64 m, .int .i64 s], .int .i64 (i : Int)] w' fun r w'' => r = .returned (.int .i64 ((16 + m * 8 + i : Nat) : Int)) ∧ Below w'.heap.size w' w'' := by
  have hp := Geo.slot_any w' (n : Int) (m : Int) (s : Int) (i : Int)
  rw [Geo.plc_yes h.may (by omega) (by omega), show 16 + (m : Int) * 8 + (i : Int) * 1 = ((16 + m * 8 + i : Nat) : Int) by omega] at hp
  exact hp
theorem slot_none {i : Int} (h : i < 0 ∨ (n : Int) ≤ i) (w : World) : Calls Tryz.prog 39 #[.agg #[.int .i64 n, .int .i64 m, .int .i64 s], .int .i64 i] w fun r w'' => r = .returned (.int .i64 (-1)) ∧ Below w.heap.size w w'' := by
  have hp := Geo.slot_any w (n : Int) (m : Int) (s : Int) i
  rw [Geo.plc_out (by omega)] at hp
  exact hp
/-- a slot's word is within -/
theorem slot_in (h : Vo Q w vb a n m s W st sn) {i : Nat} (hi : i < n) : 16 + m * 8 + i < W.length := by
  obtain ⟨h1, h2, h3⟩ := h.num
  have h4 := Geo.bm_bounds h1 h2
  have h5 := Geo.bk_bounds h1 h2
  have h6 := Geo.fin_bounds h1 h2 h3
  have h7 := h.len
  unfold Geo.fin at h7
  omega

set_option maxHeartbeats 4000000 in
set_option maxRecDepth 100000 in
theorem slot_yes (h : Vo Q w vb a n m s W st sn) (i : Nat) (hi : i < n) :
    Calls Tryz.prog 30 #[.pointer (some ⟨vb, 0, none⟩), .int .i64 (i : Int)] w fun r w' =>
      r = .returned (.tuple #[Slo.gv (Slo.dec (W[16 + m * 8 + i]?.getD 0)), .int .i64 (Slo.ev (Slo.dec (W[16 + m * 8 + i]?.getD 0)))]) ∧ Below w.heap.size w w' := by
  obtain ⟨c0, c1, c2, c3⟩ := h.cells
  have hlt := h.lt
  have HP := Lib.hid (slot_place h i hi)
  have HX := Lib.hid (Lin.owned w 0 0 0 42)
  have HB0 := Lib.hid ((Below.refl w.heap.size w).alloc (Nat.le_refl _) (.cells #[.int .i64 0, .int .i64 0, .int .i64 0] 42))
  have HL := Lib.hid (fun w' (hb : Below w.heap.size w w') => up_load (h.up.keep hb) (16 + m * 8 + i))
  have hx := at_lt h.up.u64 (16 + m * 8 + i)
  have HD := Lib.hid (fun w => Slo.decode_any w _ hx)
  have hp0 := pos_not (16 + m * 8 + i)
  generalize 16 + m * 8 + i = p at *
  generalize W[p]?.getD 0 = x at *
  have HN := Lib.hid (fun w => isNone_any w (p : Int))
  rw [hp0] at HN
  obtain ⟨g0, g1, g2, hg⟩ := gv_three (Slo.dec x)
  rw [hg] at HD ⊢
  generalize Slo.ev (Slo.dec x) = e at *
  have H := Lib.hid h
  clear h hi hg hp0 hx
  go_enter Tryz.func30, Tryz.ntmps30
  go_wp2_with fail
  generalize w.alloc (.cells #[.int .i64 0, .int .i64 0, .int .i64 0] 42) = w0 at *
  refine (HP.out _).mono ?_
  rintro r w1 ⟨rfl, hb⟩
  have HB := Lib.hid (HB0.out.trans (hb.mono HB0.out.size))
  have HX1 := Lib.hid (HX.out.keep hb)
  clear hb HP HX c0 c1 c2 c3
  obtain ⟨c0, _, _, _⟩ := (H.out.keep HB.out).cells
  go_wp2_with fail
  refine (HN.out _).mono ?_
  rintro r w2 ⟨rfl, rfl⟩
  go_wp2_with fail
  refine (HL.out _ HB.out).mono ?_
  rintro r w2 ⟨rfl, rfl⟩
  go_wp2_with fail
  refine (HD.out _).mono ?_
  rintro r w3 ⟨rfl, hb⟩
  have HB3 := Lib.hid (HB.out.trans (hb.mono HB.out.size))
  have HX3 := Lib.hid (HX1.out.keep hb)
  clear hb HX1 HB HD HL c0
  have hc0 := HX3.out.box.c0
  have hc1 := HX3.out.box.c1
  have hc2 := HX3.out.box.c2
  have hf0 := HX3.out.f 0
  have hf1 := HX3.out.f 1
  have hf2 := HX3.out.f 2
  go_wp2
  refine bodyPost_ret (v := .tuple #[.agg #[.int .i64 g0, .int .i64 g1, .int .i64 g2], .int .i64 e]) ?_ rfl ⟨rfl, ?_⟩
  · simp [results, Tryz.results30, go_sem, hc0, hc1, hc2]
  · exact ((HB3.out.setCell (Nat.le_refl _) _).setCell (Nat.le_refl _) _).setCell (Nat.le_refl _) _

theorem setSlot_out (h : Vo Q w vb a n m s W st sn) (i x y z : Int) (hi : i < 0 ∨ (n : Int) ≤ i) :
    Calls Tryz.prog 24 #[.pointer (some ⟨vb, 0, none⟩), .int .i64 i, .agg #[.int .i64 x, .int .i64 y, .int .i64 z]] w fun r w' => r = .returned (.int .i64 9) ∧ Below w.heap.size w w' := by
  obtain ⟨c0, c1, c2, c3⟩ := h.cells
  have hlt := h.lt
  have HX := Lib.hid (Lin.boxed w x y z 42)
  have HB0 := Lib.hid ((Below.refl w.heap.size w).alloc (Nat.le_refl _) (.cells #[.int .i64 x, .int .i64 y, .int .i64 z] 42))
  have HP := Lib.hid (fun w => slot_none (m := m) (s := s) hi w)
  have HN := Lib.hid (fun w => isNone_any w (-1))
  clear h hi
  go_enter Tryz.func24, Tryz.ntmps24
  go_wp2_with fail
  generalize w.alloc (.cells #[.int .i64 x, .int .i64 y, .int .i64 z] 42) = w0 at *
  refine (HP.out _).mono ?_
  rintro r w1 ⟨rfl, hb⟩
  have HB := Lib.hid (HB0.out.trans (hb.mono HB0.out.size))
  clear hb HP HX HB0
  go_wp2_with fail
  refine (HN.out _).mono ?_
  rintro r w2 ⟨rfl, rfl⟩
  go_wp2
  go_ret
  exact ⟨rfl, HB.out⟩

theorem setSlot_no (h : Vo Q w vb a n m s W st sn) (i : Nat) (x y z : Int) (hi : i < n) (hm : Slo.may x y z = false) :
    Calls Tryz.prog 24 #[.pointer (some ⟨vb, 0, none⟩), .int .i64 (i : Int), .agg #[.int .i64 x, .int .i64 y, .int .i64 z]] w fun r w' => r = .returned (.int .i64 1) ∧ Below w.heap.size w w' := by
  obtain ⟨c0, c1, c2, c3⟩ := h.cells
  have hlt := h.lt
  have HX := Lib.hid (Lin.boxed w x y z 42)
  have HB0 := Lib.hid ((Below.refl w.heap.size w).alloc (Nat.le_refl _) (.cells #[.int .i64 x, .int .i64 y, .int .i64 z] 42))
  have HP := Lib.hid (slot_place h i hi)
  have hp0 := pos_not (16 + m * 8 + i)
  generalize 16 + m * 8 + i = p at *
  have HN := Lib.hid (fun w => isNone_any w (p : Int))
  rw [hp0] at HN
  have HE := Lib.hid (fun w => Slo.encode_no w x y z hm)
  clear h hi hm hp0
  go_enter Tryz.func24, Tryz.ntmps24
  go_wp2_with fail
  generalize w.alloc (.cells #[.int .i64 x, .int .i64 y, .int .i64 z] 42) = w0 at *
  refine (HP.out _).mono ?_
  rintro r w1 ⟨rfl, hb⟩
  have HB := Lib.hid (HB0.out.trans (hb.mono HB0.out.size))
  have HX1 := Lib.hid (HX.out.keep hb)
  clear hb HP HX HB0
  go_wp2_with fail
  refine (HN.out _).mono ?_
  rintro r w2 ⟨rfl, rfl⟩
  have x0 := HX1.out.c0
  have x1 := HX1.out.c1
  have x2 := HX1.out.c2
  have xl := HX1.out.lt
  go_wp2_with fail
  refine (HE.out _).mono ?_
  rintro r w2 ⟨rfl, hb⟩
  have HB2 := Lib.hid (HB.out.trans (hb.mono HB.out.size))
  clear hb HB HE
  go_wp2
  go_ret
  exact ⟨rfl, HB2.out⟩

theorem sts_one (w : World) (p x : Nat) : Sts (w.alloc (.cells #[.int .i64 (p : Int), .int .u64 (x : Int)] 106)) w.heap.size [(p, x)] :=
  ⟨by simp, fun j hj => by
    obtain rfl : j = 0 := by simpa using hj
    exact ⟨Pack.alloc_cell w _ _ 0, Pack.alloc_cell w _ _ 1⟩⟩

set_option maxHeartbeats 4000000 in
set_option maxRecDepth 100000 in
theorem setSlot_yes (h : Vo Q w vb a n m s W st sn) (i x y q : Nat) (z : Int) (hi : i < n) (hz : z = Slo.nx q) (hm : Slo.may x y (Slo.nx q) = true) (hs : st + 2 < 100000000000) :
    Calls Tryz.prog 24 #[.pointer (some ⟨vb, 0, none⟩), .int .i64 (i : Int), .agg #[.int .i64 (x : Int), .int .i64 (y : Int), .int .i64 z]] w fun r w' =>
      r = .returned (.int .i64 0) ∧ Vo Q w' vb a n m s (W.set (16 + m * 8 + i) (Slo.wd x y q)) (st + 2) (sn + 1) ∧ Kq Q w w' := by
  obtain ⟨c0, c1, c2, c3⟩ := h.cells
  have hlt := h.lt
  have HX := Lib.hid (Lin.boxed w (x : Int) (y : Int) z 42)
  have HB0 := Lib.hid ((Below.refl w.heap.size w).alloc (Nat.le_refl _) (.cells #[.int .i64 (x : Int), .int .i64 (y : Int), .int .i64 z] 42))
  have HP := Lib.hid (slot_place h i hi)
  have hin := slot_in h hi
  have hp0 := pos_not (16 + m * 8 + i)
  generalize 16 + m * 8 + i = p at *
  have HN := Lib.hid (fun w => isNone_any w (p : Int))
  rw [hp0] at HN
  have HE := Lib.hid (fun w => Slo.encode_yes w x y q z hz hm)
  obtain ⟨l1, l2, l3, l4⟩ := Slo.may_lt hm
  have hwl := Slo.wd_lt (s := x) (c := y) (q := q) (by omega) (by omega) l4
  generalize Slo.wd x y q = v at *
  have HI := Lib.hid hin
  have HV := Lib.hid hwl
  have H := Lib.hid h
  clear h hi hm hp0 hz hin hwl l1 l2 l3 l4
  go_enter Tryz.func24, Tryz.ntmps24
  go_wp2_with fail
  generalize w.alloc (.cells #[.int .i64 (x : Int), .int .i64 (y : Int), .int .i64 z] 42) = w0 at *
  refine (HP.out _).mono ?_
  rintro r w1 ⟨rfl, hb⟩
  have HB := Lib.hid (HB0.out.trans (hb.mono HB0.out.size))
  have HX1 := Lib.hid (HX.out.keep hb)
  clear hb HP HX HB0
  go_wp2_with fail
  refine (HN.out _).mono ?_
  rintro r w2 ⟨rfl, rfl⟩
  have x0 := HX1.out.c0
  have x1 := HX1.out.c1
  have x2 := HX1.out.c2
  have xl := HX1.out.lt
  go_wp2_with fail
  refine (HE.out _).mono ?_
  rintro r w2 ⟨rfl, hb⟩
  have HB2 := Lib.hid (HB.out.trans (hb.mono HB.out.size))
  clear hb HB HE c0 c1 c2 c3
  obtain ⟨c0, _, _, _⟩ := (H.out.keep HB2.out).cells
  have hlt2 := (H.out.keep HB2.out).lt
  go_wp2_with fail
  have hb3 := HB2.out.alloc HB2.out.size (.cells #[.int .i64 (p : Int), .int .u64 (v : Int)] 106)
  have hw := write_any (H.out.up.grow hb3) w2.heap.size 1 [(p, v)] (sts_one w2 p v) (.inr ⟨HB2.out.size, by simp⟩) (fun t ht => by
    obtain rfl : t = (p, v) := by simpa using ht
    exact ⟨HI.out, HV.out⟩) (by simp; omega) (by simp)
  have HW := Lib.hid hw
  have HB3 := Lib.hid hb3
  clear hw hb3
  refine HW.out.mono ?_
  rintro r w3 ⟨rfl, hu, hk⟩
  have HU := Lib.hid (hu.sub (Q' := Q) (fun k h => .inl h))
  have HK := Lib.hid ((kq_below (Q := Q) HB3.out).trans (hk.sub (fun k h => .inl h)))
  clear hu hk HW
  go_wp2
  go_ret
  exact ⟨rfl, H.out.next HU.out HK.out (List.length_set ..), HK.out⟩
end
end Vol
end Go.Proofs.YtleehhpodgbomaaGreatDoor
/- Law 15's example, and its open. -/
namespace Go.Proofs.YtleehhpodgbomaaGreatDoor
open Go.RowKit Go.MapKept
namespace Vol

theorem gn3 : gn 3 = 4 := rfl
theorem gs0 : gs 0 = 64 := rfl
theorem may_ex : Slo.may ((0 : Nat) : Int) ((1 : Nat) : Int) (Slo.nx 65535) = true := by decide

set_option maxHeartbeats 4000000 in
set_option maxRecDepth 100000 in
theorem lives_any (w : World) (hT : Bm.Tab w) : Calls Tryz.prog 26 #[] w fun r w' => r = .returned (.bool true) ∧ Below w.heap.size w w' := by
  have HT := Lib.hid hT
  obtain ⟨sl, bm, bk, E, hpl⟩ := pl_any 3 3 0
  have HD := Lib.hid (rdev_any w 3 3 0 (by omega) (by omega) (by omega) none 0 (ws := []) (Pack.wds_nil w none) hpl)
  have HL5 := Lib.hid (fun w => Sup.lives_any w)
  have HL6 := Lib.hid (fun w => Ino.lives_any w)
  have HL7 := Lib.hid (fun w => Slo.lives_any w)
  have HL9 := Lib.hid (fun w => Rec.lives_any w)
  have HP := Lib.hid hpl
  clear hT hpl
  go_enter Tryz.func26, Tryz.ntmps26
  go_wp2_with fail
  refine HD.out.mono ?_
  rintro r w1 ⟨a, g, gc, B, rfl, h1, h2, h3, h4, hup, hwd, hb⟩
  have HU := Lib.hid hup
  have HB := Lib.hid hb
  have HN := Lib.hid (show w.heap.size ≤ B ∧ B ≤ w1.heap.size from ⟨h1, h3⟩)
  clear h1 h2 h3 h4 hup hwd hb HD
  have hbv := (Below.refl w1.heap.size w1).alloc (Nat.le_refl _) (.cells (dv (gn 3) (gn 3) (gs 0) sl bm bk E (.slice (some ⟨g, 0, none⟩) E gc)) 30)
  have HU2 := Lib.hid (HU.out.keep hbv)
  have HB2 := Lib.hid (HB.out.trans (hbv.mono HB.out.size))
  clear hbv HU HB
  unfold dv at HU2 HB2 ⊢
  go_wp2_with fail
  generalize w1.alloc (.cells #[.int .i64 (gn 3 : Nat), .int .i64 (gn 3 : Nat), .int .i64 (gs 0 : Nat), .int .i64 16, .int .i64 (sl : Int), .int .i64 (bm : Int), .int .i64 (bk : Int), .int .i64 (E : Int), .slice (some ⟨g, 0, none⟩) E gc] 30) = w2 at *
  refine (HL5.out _).mono ?_
  rintro r w3 ⟨rfl, hb⟩
  have HU3 := Lib.hid (HU2.out.keep hb)
  have HB3 := Lib.hid (HB2.out.trans (hb.mono HB2.out.size))
  clear hb HU2 HB2 HL5
  go_wp2_with fail
  refine (HL6.out _).mono ?_
  rintro r w4 ⟨rfl, hb⟩
  have HU4 := Lib.hid (HU3.out.keep hb)
  have HB4 := Lib.hid (HB3.out.trans (hb.mono HB3.out.size))
  clear hb HU3 HB3 HL6
  go_wp2_with fail
  refine (HL7.out _).mono ?_
  rintro r w5 ⟨rfl, hb⟩
  have HU5 := Lib.hid (HU4.out.keep hb)
  have HB5 := Lib.hid (HB4.out.trans (hb.mono HB4.out.size))
  clear hb HU4 HB4 HL7
  go_wp2_with fail
  refine (HL9.out _).mono ?_
  rintro r w6 ⟨rfl, hb⟩
  have HU6 := Lib.hid (HU5.out.keep hb)
  have HB6 := Lib.hid (HB5.out.trans (hb.mono HB5.out.size))
  clear hb HU5 HB5 HL9
  have HL10 := Lib.hid (Bm.lives_any w6 (HT.out.below HB6.out HT.out.lt))
  go_wp2_with fail
  refine HL10.out.mono ?_
  rintro r w7 ⟨rfl, hb⟩
  have HU7 := Lib.hid (HU6.out.keep hb)
  have HB7 := Lib.hid (HB6.out.trans (hb.mono HB6.out.size))
  clear hb HU6 HB6 HL10
  have HOP := Lib.hid (open_any HU7.out HP.out.may (by rw [rawW_len HP.out]; exact HP.out.e4.symm) (rawW_read HP.out))
  go_wp2_with fail
  refine HOP.out.mono ?_
  rintro r w8 ⟨vb, rfl, hvb, hvo, hb⟩
  have HV8 := Lib.hid (hvo.sub (Q' := fun k => k < B ∨ k = vb) (fun k hk => by
    rcases hk with hk | rfl
    · exact .inl hk
    · exact .inr ⟨hvb, hvo.lt⟩) (.inr rfl))
  have HB8 := Lib.hid (HB7.out.trans (hb.mono HB7.out.size))
  clear hvb hvo hb HOP HU7 HB7
  have HSS := Lib.hid (setSlot_yes HV8.out 0 0 1 65535 (-1) (by decide) (by decide) may_ex (by omega))
  go_wp2_with fail
  refine HSS.out.mono ?_
  rintro r w9 ⟨rfl, hv9, hk⟩
  have HV9 := Lib.hid hv9
  have HB9 := Lib.hid (HB8.out.trans (hk.below HB8.out.size (fun k hk => .inl (Nat.lt_of_lt_of_le hk HN.out.1))))
  clear hv9 hk HSS HV8 HB8
  have HST := Lib.hid (up_steps HV9.out.up)
  have HSN := Lib.hid (up_stores HV9.out.up)
  go_wp2_with fail
  refine HST.out.mono ?_
  rintro r w' ⟨rfl, rfl⟩
  go_wp2_with fail
  refine HSN.out.mono ?_
  rintro r w' ⟨rfl, rfl⟩
  go_wp2
  go_ret
  exact ⟨rfl, HB9.out⟩
end Vol
end Go.Proofs.YtleehhpodgbomaaGreatDoor
/- Law 15's open, wrote, still. -/
namespace Go.Proofs.YtleehhpodgbomaaGreatDoor
open Go.RowKit Go.MapKept
namespace Vol

/-- what open leaves: the volume, and the document's words, in blocks of Q -/
structure Ov (w w' : World) (Q : Nat → Prop) (vb a g gc n m s E : Nat) (W : List Nat) : Prop where
  vo : Vo Q w' vb a n m s W 0 0
  qg : Q g
  ql : ∀ k, k < w.heap.size → Q k
  wds : Pack.Wds w' (some ⟨g, 0, none⟩) W
  cap : E ≤ gc
  below : Below w.heap.size w w'
  len : W.length = E

theorem Vo.put {Q : Nat → Prop} {w : World} {vb a n m s : Nat} {W : List Nat} {st sn : Nat} (h : Vo Q w vb a n m s W st sn) {p : Addr} (hp : Q p.block) (hne : vb ≠ p.block) (v : Value) : Vo Q (w.setCell p v) vb a n m s W st sn :=
  ⟨(Below.heap_setCell _ _ _ _ hne).trans h.vol, h.q, h.up.put hp v, h.may, h.len⟩

section
variable {sl bm bk E : Nat} {ws : List Nat}
end
end Vol
end Go.Proofs.YtleehhpodgbomaaGreatDoor
