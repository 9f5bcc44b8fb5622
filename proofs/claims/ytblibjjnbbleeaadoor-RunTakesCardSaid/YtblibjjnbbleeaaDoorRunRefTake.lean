/- The document's Take. -/
import Derived.Test.YtblibjjnbbleeaaDoorRunRef
import Derived.Deep.CutBlock
namespace Go.Proofs.YtblibjjnbbleeaaDoor
open Go.RowKit Go.MapKept
namespace Rn
open Bm

theorem Own2.other {w : World} {b : Nat} {x y : Int} (h : Own2 w b x y) {p : Addr} (hne : b ≠ p.block) (v : Value) : Own2 (w.setCell p v) b x y := by
  have e := Below.heap_setCell w p v b hne
  exact ⟨by simpa using h.lt, (World.cell?_of_block (w := w) (a := ⟨b, 0, none⟩) e).trans h.c0, (World.cell?_of_block (w := w) (a := ⟨b, 1, none⟩) e).trans h.c1, fun o => (World.frozen?_of_block (w := w) (a := ⟨b, o, none⟩) e).trans (h.f o)⟩

/-- what the document's Take answers -/
def RtR (w : World) (q n : Nat) (f : Nat → Bool) (l : List Run) (e : Ending) (w' : World) : Prop :=
  ∃ (A : Option Addr) (c : Nat) (G : Option Addr) (gc : Nat), e = .returned (.tuple #[.slice A n c, .slice G l.length gc, .bool true]) ∧ Bls w' q A n (fl f l) ∧ Rs w' w.heap.size G l ∧ Below w.heap.size w w'
/-- behind the choice -/
def Ch (w wx : World) (g n : Nat) (f : Nat → Bool) (l : List Run) (s : Value) : Prop :=
  ∃ (G : Option Addr) (gc : Nat), s = .slice G l.length gc ∧ Rs wx (g + 1) G l ∧ Row wx g 4 n (fun k => .bool (f k)) ∧ Below w.heap.size w wx
theorem Ch.keep {w wx wy : World} {g n : Nat} {f : Nat → Bool} {l : List Run} {s : Value} (h : Ch w wx g n f l s) (hb : Below wx.heap.size wx wy) : Ch w wy g n f l s := by
  obtain ⟨G, gc, e, h1, h2, h3⟩ := h
  exact ⟨G, gc, e, h1.keep hb, h2.of_block (hb.block _ h2.lt), h3.trans (hb.mono h3.size)⟩

section
variable {w : World} {q n : Nat} {f : Nat → Bool}
set_option maxRecDepth 100000 in
set_option maxHeartbeats 1000000 in
theorem refTake_no (A : Option Addr) (c : Nat) (h : Bls w q A n f) (hn : n ≤ 65534) (x : Int) (hx : x < 0 ∨ ((n - cnt f n : Nat) : Int) < x) :
    Calls Tryd.prog 21 #[.slice A n c, .int .i64 x] w fun e w' => e = .returned (.tuple #[.slice A n c, .slice none 0 0, .bool false]) ∧ w = w' := by
  have HC := Lib.hid (refCount_any A c h hn)
  have hle := cnt_le f n
  clear h
  by_cases h0 : x < 0
  · clear hx HC
    go_enter Tryd.func21, Tryd.ntmps21
    go_wp2
    refine bodyPost_ret (v := .tuple #[.slice A n c, .slice none 0 0, .bool false]) (by simp [results, Tryd.results21, go_sem]) rfl ⟨rfl, rfl⟩
  · have h1 : (n : Int) - (cnt f n : Int) < x := by omega
    generalize cnt f n = m at *
    clear hx
    go_enter Tryd.func21, Tryd.ntmps21
    go_wp2_with fail
    refine HC.out.mono ?_
    rintro e w1 ⟨rfl, rfl⟩
    go_wp2
    refine bodyPost_ret (v := .tuple #[.slice A n c, .slice none 0 0, .bool false]) (by simp [results, Tryd.results21, go_sem]) rfl ⟨rfl, rfl⟩

set_option maxRecDepth 100000 in
set_option maxHeartbeats 2000000 in
theorem refTake_some (A : Option Addr) (c : Nat) (h : Bls w q A n f) (hn : n ≤ 65534) (hn1 : 1 ≤ n) (hq : q < w.heap.size) (x : Nat) (hx : x ≤ n - cnt f n) (hx1 : 1 ≤ x) (a k : Nat) (hf : fit (frs f n) x = some (a, k)) :
    Calls Tryd.prog 21 #[.slice A n c, .int .i64 (x : Int)] w (RtR w q n f (cho (frs f n) x)) := by
  obtain ⟨bb, o, rfl, hbb, _, _⟩ := h.at' 0 (by omega)
  have HC := Lib.hid (refCount_any _ c h hn)
  have hle := cnt_le f n
  have h1 : ¬ (n : Int) - (cnt f n : Int) < (x : Int) := by omega
  have HUP := Lib.hid (up_cho f n x)
  have hch := cho_fit hx1 hf
  obtain ⟨g, gc, w1, hr, hg, hrow, hbel⟩ := copy_bls c h hn
  have HFit := Lib.hid (hf ▸ refFit_any (some ⟨bb, o, none⟩) c (h.keep hbel) hn x hx1 (by omega))
  have HFree := Lib.hid (fun (w' : World) (h : Bls w' q (some ⟨bb, o, none⟩) n f) => refFree_any (some ⟨bb, o, none⟩) c h hn)
  have HR := Lib.hid hr
  have HROW := Lib.hid hrow
  have HB1 := Lib.hid hbel
  have HA := Lib.hid (h.keep hbel)
  have hlen := frs_len f n
  have hLp : 0 < (frs f n).length := by
    rcases Nat.eq_zero_or_pos (frs f n).length with e | e
    · rw [List.length_eq_zero_iff.1 e] at hf
      cases hf
    · exact e
  have hgq : g ≠ q := by omega
  have hgw : w.heap.size ≤ g + 1 := by omega
  rw [hch] at HUP ⊢
  clear h hr hrow hbel hf hx hch
  generalize cnt f n = m at *
  generalize frs f n = L at *
  have hd1 : decide ((x : Int) < 0) = false := by simp
  have hd2 : decide ((n : Int) - (m : Int) < (x : Int)) = false := decide_eq_false h1
  go_enter Tryd.func21, Tryd.ntmps21
  go_wp2_with fail
  refine HC.out.mono ?_
  rintro e w' ⟨rfl, rfl⟩
  go_wp2_with (at_builtin; refine wpList_append_run rfl (.tmp 29) (.tmp 30) 26 rfl _ _ _ rfl rfl HR.out ?_)
  refine HFit.out.mono ?_
  rintro e w2 ⟨rfl, hb⟩
  unfold fv
  simp only
  have hba := ((Below.refl w2.heap.size w2).alloc (Nat.le_refl _) (.cells #[.int .i64 (a : Int), .int .i64 (k : Int)] 37)).alloc (by simp) (.cells #[.int .i64 (a : Int), .int .i64 (k : Int)] 37)
  have HA3 := Lib.hid ((HA.out.keep hb).keep hba)
  have HROW3 := Lib.hid ((HROW.out.of_block (hb.block _ HROW.out.lt)).of_block (hba.block _ (Nat.lt_of_lt_of_le HROW.out.lt hb.size)))
  have HB3 := Lib.hid ((HB1.out.trans (hb.mono HB1.out.size)).trans (hba.mono (Nat.le_trans HB1.out.size hb.size)))
  have hg2 := Nat.lt_of_lt_of_le HROW.out.lt hb.size
  have HO := Lib.hid (own2_new (w2.alloc (.cells #[.int .i64 (a : Int), .int .i64 (k : Int)] 37)) (a : Int) (k : Int) 37)
  rw [World.size_alloc] at HO
  clear hb hba
  go_wp2_with fail
  generalize hw3 : (w2.alloc (.cells #[.int .i64 (a : Int), .int .i64 (k : Int)] 37)).alloc (.cells #[.int .i64 (a : Int), .int .i64 (k : Int)] 37) = w3 at *
  clear hw3
  refine (HFree.out w3 HA3.out).mono ?_
  rintro e w4 ⟨F, fc, rfl, hrs, hb⟩
  have HRS4 := Lib.hid hrs
  have HC4 := Lib.hid (show Ch w w4 g n f [(a, k)] (.slice (some ⟨w2.heap.size + 1, 0, none⟩) 1 1) from ⟨_, _, rfl, ⟨fun j hj => by
    obtain rfl : j = 0 := by simpa using hj
    have HO4 := HO.out.keep hb
    exact ⟨w2.heap.size + 1, 0, rfl, HO4.lt, by omega, HO4.c0, HO4.c1⟩⟩, HROW3.out.of_block (hb.block _ HROW3.out.lt), HB3.out.trans (hb.mono HB3.out.size)⟩)
  clear hrs hb
  go_upto_block 0 with fail
  go_cut [8] (fun s8 wx => Ch w wx g n f [(a, k)] s8)
  case first =>
    go_wp2
    go_loopw [8, 11, 45] (fun s8 s11 i wr => s8 = .slice (some ⟨w2.heap.size + 1, 0, none⟩) 1 1 ∧ s11 = .int .i64 (x : Int) ∧ i = .int .i64 0 ∧ wr = w4) (fun _ _ _ _ => 0)
    case atStart => exact ⟨rfl, rfl, rfl, rfl⟩
    case round =>
      obtain ⟨rfl, rfl, rfl, rfl⟩ := hrel
      obtain ⟨b1, o1, rfl, hbb1, _, hc0, hc1⟩ := HRS4.out.at' 0 hLp
      have hi1 : (0 : Int) < (L.length : Int) := by omega
      have HX := Lib.hid (HC4.out.keep ((Below.refl _ _).alloc (Nat.le_refl _) (.cells #[.int .i64 ((L[0]'hLp).1 : Int), .int .i64 ((L[0]'hLp).2 : Int)] 37)))
      generalize (L[0]'hLp).1 = s at *
      generalize (L[0]'hLp).2 = y at *
      simp only [Nat.zero_mul, Nat.add_zero] at hc0 hc1
      go_wp2
      go_meet
      exact HX.out
  case rest =>
    obtain ⟨G, gc2, rfl, hrs, hrow, hbl⟩ := hcut
    have HRSC := Lib.hid hrs
    have HROWC := Lib.hid hrow
    have HBC := Lib.hid hbl
    clear hrs hrow hbl HC4 hd1 hd2
    have hll : [(a, k)].length ≤ 65535 := by simp
    generalize hl : [(a, k)] = l at *
    clear hl
    go_wp2
    go_loopw [71] (fun i wr => ∃ k : Nat, k ≤ l.length ∧ i = .int .i64 (k : Int) ∧ Row wr g 4 n (fun j => .bool (fl f (l.take k) j)) ∧ Rs wr (g + 1) G l ∧ Below w.heap.size w wr) (fun i _ => l.length - (intOf i).toNat)
    case atStart => exact ⟨0, Nat.zero_le _, rfl, by rw [List.take_zero]; exact HROWC.out, HRSC.out, HBC.out⟩
    case round =>
      obtain ⟨k2, hk, rfl, hrow, hrs, hbl⟩ := hrel
      by_cases hlt : k2 < l.length
      · obtain ⟨b2, o2, rfl, hbb2, hgb, hc0, hc1⟩ := hrs.at' k2 hlt
        have hget := HUP.out.get hlt
        have HFT := Lib.hid (fl_take (f := f) hlt)
        have hba := (Below.refl wr.heap.size wr).alloc (Nat.le_refl _) (.cells #[.int .i64 (l[k2].1 : Int), .int .i64 (l[k2].2 : Int)] 37)
        have HROW5 := Lib.hid (hrow.of_block (hba.block _ hrow.lt))
        have hgl := hrow.lt
        have HRS5 := Lib.hid (hrs.keep hba)
        have HB5 := Lib.hid (hbl.alloc hbl.size (.cells #[.int .i64 (l[k2].1 : Int), .int .i64 (l[k2].2 : Int)] 37))
        have HZ5 := Lib.hid (own2_new wr (l[k2].1 : Int) (l[k2].2 : Int) 37)
        have hi0 : (0 : Int) ≤ (k2 : Int) := by omega
        have hi1 : (k2 : Int) < (l.length : Int) := by omega
        have hy : l[k2].1 + l[k2].2 ≤ n := hget.2.2.1
        clear hrow hrs hbl hget hba
        generalize l[k2].1 = s at *
        generalize l[k2].2 = y at *
        generalize hf0 : fl f (l.take k2) = f0 at *
        clear hf0
        go_wp2
        generalize hw5 : wr.alloc (.cells #[.int .i64 (s : Int), .int .i64 (y : Int)] 37) = w5 at *
        clear hw5
        have hzg : wr.heap.size ≠ g := by omega
        generalize wr.heap.size = z at *
        have hyc := HZ5.out.c1
        go_loopw [77] (fun i w6 => ∃ j : Nat, j ≤ y ∧ i = .int .i64 (j : Int) ∧ Row w6 g 4 n (fun b => .bool (fill f0 s (s + j) b)) ∧ Rs w6 (g + 1) (some ⟨b2, o2, none⟩) l ∧ Below w.heap.size w w6 ∧ Own2 w6 z (s : Int) (y : Int)) (fun i _ => y - (intOf i).toNat)
        case atStart => exact ⟨0, Nat.zero_le _, rfl, by rw [Nat.add_zero, fill_none]; exact HROW5.out, HRS5.out, HB5.out, HZ5.out⟩
        case round =>
          obtain ⟨j, hj, rfl, hrow, hrs, hbl, hz⟩ := hrel
          have hzc0 := hz.c0
          have hzc1 := hz.c1
          by_cases hjy : j < y
          · obtain ⟨d, hd⟩ : ∃ d, d = s + j := ⟨_, rfl⟩
            rw [← hd] at hrow
            have hdn : d < n := by omega
            have hsum : (s : Int) + (j : Int) = (d : Int) := by omega
            have hsum1 : s + (j + 1) = d + 1 := by omega
            have hsd : s ≤ d := by omega
            have hcd := hrow.cell hdn
            have hfd := hrow.frozen d
            have hd0 : (0 : Int) ≤ (d : Int) := by omega
            have hd1 : (d : Int) < (n : Int) := by omega
            have HROW6 := Lib.hid ((hrow.set d (.bool true)).congr (g := fun b => .bool (fill f0 s (s + (j + 1)) b)) (fun b _ => by
              rw [hsum1, ← fill_step s d hsd]
              unfold upd
              split <;> rfl))
            have HRS6 := Lib.hid (hrs.chg (q := g) ((Chg.refl g wr).setCell (p := ⟨g, d, none⟩) rfl (.bool true)) (Nat.lt_succ_self g))
            have HB6 := Lib.hid (hbl.setCell (p := ⟨g, d, none⟩) hg (.bool true))
            have HZ6 := Lib.hid (hz.other (p := ⟨g, d, none⟩) hzg (.bool true))
            clear hrow hrs hbl hz hd hsum1 hc0 hc1
            generalize fill f0 s d d = vv at *
            go_wp2
            refine ⟨⟨j + 1, by omega, by go_num, HROW6.out, HRS6.out, HB6.out, HZ6.out⟩, by simp [intOf]; omega⟩
          · obtain rfl : j = y := by omega
            have HROW6 := Lib.hid hrow
            have HRS6 := Lib.hid hrs
            have HB6 := Lib.hid hbl
            clear hrow hrs hbl hz hc0 hc1
            go_wp2
            refine ⟨⟨k2 + 1, by omega, by go_num, by rw [HFT.out]; exact HROW6.out, HRS6.out, HB6.out⟩, by simp [intOf]; omega⟩
      · obtain rfl : k2 = l.length := by omega
        rw [List.take_length] at hrow
        have HX := Lib.hid (show RtR w q n f l (.returned (.tuple #[.slice (some ⟨g, 0, none⟩) n gc, .slice G l.length gc2, .bool true])) wr from ⟨_, _, _, _, rfl, Row.bls hrow hgq, hrs.less hgw, hbl⟩)
        clear hrow hrs hbl
        go_wp2
        refine bodyPost_ret (v := .tuple #[.slice (some ⟨g, 0, none⟩) n gc, .slice G l.length gc2, .bool true]) (by simp [results, Tryd.results21, go_sem]) rfl HX.out

set_option maxRecDepth 100000 in
set_option maxHeartbeats 2000000 in
theorem refTake_cut (A : Option Addr) (c : Nat) (h : Bls w q A n f) (hn : n ≤ 65534) (hn1 : 1 ≤ n) (hq : q < w.heap.size) (x : Nat) (hx : x ≤ n - cnt f n)
    (hFit : ∀ w', Bls w' q A n f → Calls Tryd.prog 14 #[.slice A n c, .int .i64 (x : Int)] w' fun e w'' => e = .returned (fv none) ∧ Below w'.heap.size w' w'') (hcho : cho (frs f n) x = cut (frs f n) x) :
    Calls Tryd.prog 21 #[.slice A n c, .int .i64 (x : Int)] w (RtR w q n f (cut (frs f n) x)) := by
  obtain ⟨bb, o, rfl, hbb, _, _⟩ := h.at' 0 (by omega)
  have HC := Lib.hid (refCount_any _ c h hn)
  have hle := cnt_le f n
  have h1 : ¬ (n : Int) - (cnt f n : Int) < (x : Int) := by omega
  have HUP := Lib.hid (hcho ▸ up_cho f n x)
  obtain ⟨i0, hi0, hz0, hz1, hz2⟩ := info_parts ref_info
  obtain ⟨g, gc, w1, hr, hg, hrow, hbel⟩ := copy_bls c h hn
  have HFit := Lib.hid (hFit _ (h.keep hbel))
  have HFree := Lib.hid (fun (w' : World) (h : Bls w' q (some ⟨bb, o, none⟩) n f) => refFree_any (some ⟨bb, o, none⟩) c h hn)
  have HR := Lib.hid hr
  have HROW := Lib.hid hrow
  have HB1 := Lib.hid hbel
  have HA := Lib.hid (h.keep hbel)
  have hlen := frs_len f n
  have hgq : g ≠ q := by omega
  have hgw : w.heap.size ≤ g + 1 := by omega
  have hxn : x ≤ 65534 := by omega
  clear h hr hrow hbel hFit hx hcho
  generalize cnt f n = m at *
  generalize frs f n = L at *
  have hd1 : decide ((x : Int) < 0) = false := by simp
  have hd2 : decide ((n : Int) - (m : Int) < (x : Int)) = false := decide_eq_false h1
  go_enter Tryd.func21, Tryd.ntmps21
  go_wp2_with fail
  refine HC.out.mono ?_
  rintro e w' ⟨rfl, rfl⟩
  go_wp2_with (at_builtin; refine wpList_append_run rfl (.tmp 29) (.tmp 30) 26 rfl _ _ _ rfl rfl HR.out ?_)
  refine HFit.out.mono ?_
  rintro e w2 ⟨rfl, hb⟩
  unfold fv
  simp only
  have hba := (Below.refl w2.heap.size w2).alloc (Nat.le_refl _) (.cells #[.int .i64 0, .int .i64 0] 37)
  have HA3 := Lib.hid ((HA.out.keep hb).keep hba)
  have HROW3 := Lib.hid ((HROW.out.of_block (hb.block _ HROW.out.lt)).of_block (hba.block _ (Nat.lt_of_lt_of_le HROW.out.lt hb.size)))
  have HB3 := Lib.hid ((HB1.out.trans (hb.mono HB1.out.size)).trans (hba.mono (Nat.le_trans HB1.out.size hb.size)))
  have hg2 := Nat.lt_of_lt_of_le HROW.out.lt hb.size
  clear hb hba
  go_wp2_with fail
  generalize hw3 : w2.alloc (.cells #[.int .i64 0, .int .i64 0] 37) = w3 at *
  clear hw3
  refine (HFree.out w3 HA3.out).mono ?_
  rintro e w4 ⟨F, fc, rfl, hrs, hb⟩
  have HRS4 := Lib.hid hrs
  have HROW4 := Lib.hid (HROW3.out.of_block (hb.block _ HROW3.out.lt))
  have HB4 := Lib.hid (HB3.out.trans (hb.mono HB3.out.size))
  have HC4 := Lib.hid HROW4.out.lt
  clear hrs hb
  go_upto_block 0 with fail
  go_cut [8] (fun s8 wx => Ch w wx g n f (cut L x) s8)
  case first =>
    go_wp2
    go_loopw [8, 11, 45] (fun s8 s11 i wr => ∃ (k mm gc3 : Nat) (G : Option Addr), k ≤ L.length ∧ i = .int .i64 (k : Int) ∧ s11 = .int .i64 ((x - tot (cut (L.take k) x) : Nat) : Int) ∧ s8 = .slice G mm gc3 ∧ GotR 37 w4 wr G mm gc3 (cut (L.take k) x)) (fun _ _ i _ => L.length - (intOf i).toNat)
    case atStart => exact ⟨0, 0, 0, none, Nat.zero_le _, rfl, rfl, rfl, ⟨by rw [List.take_zero]; rfl, .inl ⟨rfl, rfl⟩⟩, Below.refl _ _⟩
    case round =>
      obtain ⟨k, mm, gc3, G, hk, rfl, rfl, rfl, hgot⟩ := hrel
      by_cases hlt : k < L.length
      · have hrs := HRS4.out.keep hgot.2
        obtain ⟨b, o1, rfl, hbb1, _, hc0, hc1⟩ := hrs.at' k hlt
        have hct := cut_take (c := x) hlt
        have hcf := cut_full (l := L) (k := k) (c := x)
        have hcl := cut_len_take L k x
        have htl := (cut_le (L.take k) x).1
        obtain ⟨hrs2, hml⟩ := own_rs hgot.1
        have HG := Lib.hid hgot
        have HCT := Lib.hid hct
        have HCF := Lib.hid hcf
        have hj0 : (0 : Int) ≤ (k : Int) := by omega
        have hj1 : (k : Int) < (L.length : Int) := by omega
        clear hgot hrs hct hcf
        generalize L[k] = r at *
        obtain ⟨a, y⟩ := r
        generalize cut (L.take k) x = S at *
        generalize hu : x - tot S = u at *
        have huc : u ≤ x := by omega
        have HU := Lib.hid hu
        have HSL := Lib.hid hml
        have hmn : mm ≤ 65534 := by omega
        clear hu hml htl hcl
        simp only at hc0 hc1 HCT
        by_cases hu0 : u = 0
        · subst hu0
          have HX := Lib.hid (show Ch w (wr.alloc (.cells #[.int .i64 (a : Int), .int .i64 (y : Int)] 37)) g n f (cut L x) (.slice G mm gc3) from Ch.keep (wx := wr) (by
            rw [HCF.out rfl, ← HSL.out]
            exact ⟨G, gc3, rfl, hrs2.less HC4.out, HROW4.out.of_block (HG.out.2.block _ HC4.out), HB4.out.trans (HG.out.2.mono HB4.out.size)⟩) ((Below.refl _ _).alloc (Nat.le_refl _) _))
          clear hrs2
          go_wp2
          go_meet
          exact HX.out
        · have hu1 : ¬ (u : Int) = 0 := by omega
          clear hrs2
          obtain ⟨v, hv⟩ : ∃ v, v = min y u := ⟨_, rfl⟩
          have HT2 := Lib.hid (show cut (L.take (k + 1)) x = S ++ [(a, v)] ∧ x - tot (S ++ [(a, v)]) = u - v from by
            have h1 := HU.out
            refine ⟨by rw [HCT.out, if_neg hu0, hv], ?_⟩
            rw [tot_snoc]
            simp only
            omega)
          have hvu : v ≤ u := by omega
          have HV := Lib.hid hv
          clear hv
          have HSUB := Lib.hid (show (u : Int) - (v : Int) = ((u - v : Nat) : Int) by omega)
          generalize u - v = u2 at *
          by_cases hxu : y ≤ u
          · have hxu1 : ¬ (u : Int) < (y : Int) := by omega
            obtain rfl : v = y := by rw [HV.out]; omega
            clear hxu HV
            have HOZ := Lib.hid (own2_new wr (a : Int) (v : Int) 37)
            have HBA := Lib.hid ((Below.refl wr.heap.size wr).alloc (Nat.le_refl _) (.cells #[.int .i64 (a : Int), .int .i64 (v : Int)] 37))
            have HOWN := Lib.hid ((own_keep2 HG.out.1 HBA.out).alloc (.cells #[.int .i64 (a : Int), .int .i64 (v : Int)] 37))
            have HB5 := Lib.hid ((HG.out.2.trans (HBA.out.mono HG.out.2.size)).alloc (by have := HBA.out.size; have := HG.out.2.size; omega) (.cells #[.int .i64 (a : Int), .int .i64 (v : Int)] 37))
            have HCN := Lib.hid (cells_two_new (wr.alloc (.cells #[.int .i64 (a : Int), .int .i64 (v : Int)] 37)) (.int .i64 (a : Int)) (.int .i64 (v : Int)) 37)
            rw [World.size_alloc] at HCN
            go_wp2_with (at_builtin; refine wpList_append_own_at _ rfl (.tmp 64) (.tmp 66) 43 rfl w4.heap.size 37 i0 (.agg #[.int .i64 0, .int .i64 0]) 2 16 Tryd.underlying43 hi0 hz0 hz1 hz2 rfl (by decide) (.slice G mm gc3) mm (rcells S) rfl HOWN.out ⟨wr.heap.size + 1, 0, none⟩ 1 1 [.int .i64 (a : Int), .int .i64 (v : Int)] rfl rfl HCN.out (by simp [Value.oneCell']) (by unfold maxLen; omega) (by omega) (by have := HB5.out.size; omega) ?_
                         intro v' w6 hown4 hgr4 _ _
                         obtain ⟨G', gc', rfl⟩ := row_slice2 hown4
                         have HO4 := Lib.hid hown4
                         have HB6 := Lib.hid (HB5.out.grown hgr4 HB5.out.size (fun k hk => row_base_lt2 HG.out.1 hk))
                         clear hown4 hgr4)
            refine ⟨⟨k + 1, mm + 1, gc', G', by omega, by go_num, ?_, rfl, ⟨?_, HB6.out⟩⟩, by simp [intOf]; omega⟩
            · rw [HT2.out.1, HT2.out.2, ← HSUB.out]
              try rw [Int.sub_self]
            · rw [HT2.out.1, rcells_snoc]
              exact HO4.out
          · have hxu1 : (u : Int) < (y : Int) := by omega
            obtain rfl : v = u := by rw [HV.out]; omega
            clear hxu HV
            have HOZ := Lib.hid (own2_new wr (a : Int) (v : Int) 37)
            have HBA := Lib.hid ((Below.refl wr.heap.size wr).alloc (Nat.le_refl _) (.cells #[.int .i64 (a : Int), .int .i64 (v : Int)] 37))
            have HOWN := Lib.hid ((own_keep2 HG.out.1 HBA.out).alloc (.cells #[.int .i64 (a : Int), .int .i64 (v : Int)] 37))
            have HB5 := Lib.hid ((HG.out.2.trans (HBA.out.mono HG.out.2.size)).alloc (by have := HBA.out.size; have := HG.out.2.size; omega) (.cells #[.int .i64 (a : Int), .int .i64 (v : Int)] 37))
            have HCN := Lib.hid (cells_two_new (wr.alloc (.cells #[.int .i64 (a : Int), .int .i64 (v : Int)] 37)) (.int .i64 (a : Int)) (.int .i64 (v : Int)) 37)
            rw [World.size_alloc] at HCN
            go_wp2_with (at_builtin; refine wpList_append_own_at _ rfl (.tmp 64) (.tmp 66) 43 rfl w4.heap.size 37 i0 (.agg #[.int .i64 0, .int .i64 0]) 2 16 Tryd.underlying43 hi0 hz0 hz1 hz2 rfl (by decide) (.slice G mm gc3) mm (rcells S) rfl HOWN.out ⟨wr.heap.size + 1, 0, none⟩ 1 1 [.int .i64 (a : Int), .int .i64 (v : Int)] rfl rfl HCN.out (by simp [Value.oneCell']) (by unfold maxLen; omega) (by omega) (by have := HB5.out.size; omega) ?_
                         intro v' w6 hown4 hgr4 _ _
                         obtain ⟨G', gc', rfl⟩ := row_slice2 hown4
                         have HO4 := Lib.hid hown4
                         have HB6 := Lib.hid (HB5.out.grown hgr4 HB5.out.size (fun k hk => row_base_lt2 HG.out.1 hk))
                         clear hown4 hgr4)
            refine ⟨⟨k + 1, mm + 1, gc', G', by omega, by go_num, ?_, rfl, ⟨?_, HB6.out⟩⟩, by simp [intOf]; omega⟩
            · rw [HT2.out.1, HT2.out.2, ← HSUB.out]
              try rw [Int.sub_self]
            · rw [HT2.out.1, rcells_snoc]
              exact HO4.out
      · obtain rfl : k = L.length := by omega
        rw [List.take_length] at hgot
        obtain ⟨hrs2, hml⟩ := own_rs hgot.1
        have HX := Lib.hid (show Ch w wr g n f (cut L x) (.slice G mm gc3) from by
          rw [← hml]
          exact ⟨G, gc3, rfl, hrs2.less HC4.out, HROW4.out.of_block (hgot.2.block _ HC4.out), HB4.out.trans (hgot.2.mono HB4.out.size)⟩)
        clear hgot hrs2 hml
        go_wp2
        go_meet
        exact HX.out
  case rest =>
    obtain ⟨G, gc2, rfl, hrs, hrow, hbl⟩ := hcut
    have HRSC := Lib.hid hrs
    have HROWC := Lib.hid hrow
    have HBC := Lib.hid hbl
    clear hrs hrow hbl HC4 hd1 hd2
    have hll : (cut L x).length ≤ 65535 := by have := (cut_le L x).2; omega
    generalize hl : cut L x = l at *
    clear hl
    go_wp2
    go_loopw [71] (fun i wr => ∃ k : Nat, k ≤ l.length ∧ i = .int .i64 (k : Int) ∧ Row wr g 4 n (fun j => .bool (fl f (l.take k) j)) ∧ Rs wr (g + 1) G l ∧ Below w.heap.size w wr) (fun i _ => l.length - (intOf i).toNat)
    case atStart => exact ⟨0, Nat.zero_le _, rfl, by rw [List.take_zero]; exact HROWC.out, HRSC.out, HBC.out⟩
    case round =>
      obtain ⟨k2, hk, rfl, hrow, hrs, hbl⟩ := hrel
      by_cases hlt : k2 < l.length
      · obtain ⟨b2, o2, rfl, hbb2, hgb, hc0, hc1⟩ := hrs.at' k2 hlt
        have hget := HUP.out.get hlt
        have HFT := Lib.hid (fl_take (f := f) hlt)
        have hba := (Below.refl wr.heap.size wr).alloc (Nat.le_refl _) (.cells #[.int .i64 (l[k2].1 : Int), .int .i64 (l[k2].2 : Int)] 37)
        have HROW5 := Lib.hid (hrow.of_block (hba.block _ hrow.lt))
        have hgl := hrow.lt
        have HRS5 := Lib.hid (hrs.keep hba)
        have HB5 := Lib.hid (hbl.alloc hbl.size (.cells #[.int .i64 (l[k2].1 : Int), .int .i64 (l[k2].2 : Int)] 37))
        have HZ5 := Lib.hid (own2_new wr (l[k2].1 : Int) (l[k2].2 : Int) 37)
        have hi0 : (0 : Int) ≤ (k2 : Int) := by omega
        have hi1 : (k2 : Int) < (l.length : Int) := by omega
        have hy : l[k2].1 + l[k2].2 ≤ n := hget.2.2.1
        clear hrow hrs hbl hget hba
        generalize l[k2].1 = s at *
        generalize l[k2].2 = y at *
        generalize hf0 : fl f (l.take k2) = f0 at *
        clear hf0
        go_wp2
        generalize hw5 : wr.alloc (.cells #[.int .i64 (s : Int), .int .i64 (y : Int)] 37) = w5 at *
        clear hw5
        have hzg : wr.heap.size ≠ g := by omega
        generalize wr.heap.size = z at *
        have hyc := HZ5.out.c1
        go_loopw [77] (fun i w6 => ∃ j : Nat, j ≤ y ∧ i = .int .i64 (j : Int) ∧ Row w6 g 4 n (fun b => .bool (fill f0 s (s + j) b)) ∧ Rs w6 (g + 1) (some ⟨b2, o2, none⟩) l ∧ Below w.heap.size w w6 ∧ Own2 w6 z (s : Int) (y : Int)) (fun i _ => y - (intOf i).toNat)
        case atStart => exact ⟨0, Nat.zero_le _, rfl, by rw [Nat.add_zero, fill_none]; exact HROW5.out, HRS5.out, HB5.out, HZ5.out⟩
        case round =>
          obtain ⟨j, hj, rfl, hrow, hrs, hbl, hz⟩ := hrel
          have hzc0 := hz.c0
          have hzc1 := hz.c1
          by_cases hjy : j < y
          · obtain ⟨d, hd⟩ : ∃ d, d = s + j := ⟨_, rfl⟩
            rw [← hd] at hrow
            have hdn : d < n := by omega
            have hsum : (s : Int) + (j : Int) = (d : Int) := by omega
            have hsum1 : s + (j + 1) = d + 1 := by omega
            have hsd : s ≤ d := by omega
            have hcd := hrow.cell hdn
            have hfd := hrow.frozen d
            have hd0 : (0 : Int) ≤ (d : Int) := by omega
            have hd1 : (d : Int) < (n : Int) := by omega
            have HROW6 := Lib.hid ((hrow.set d (.bool true)).congr (g := fun b => .bool (fill f0 s (s + (j + 1)) b)) (fun b _ => by
              rw [hsum1, ← fill_step s d hsd]
              unfold upd
              split <;> rfl))
            have HRS6 := Lib.hid (hrs.chg (q := g) ((Chg.refl g wr).setCell (p := ⟨g, d, none⟩) rfl (.bool true)) (Nat.lt_succ_self g))
            have HB6 := Lib.hid (hbl.setCell (p := ⟨g, d, none⟩) hg (.bool true))
            have HZ6 := Lib.hid (hz.other (p := ⟨g, d, none⟩) hzg (.bool true))
            clear hrow hrs hbl hz hd hsum1 hc0 hc1
            generalize fill f0 s d d = vv at *
            go_wp2
            refine ⟨⟨j + 1, by omega, by go_num, HROW6.out, HRS6.out, HB6.out, HZ6.out⟩, by simp [intOf]; omega⟩
          · obtain rfl : j = y := by omega
            have HROW6 := Lib.hid hrow
            have HRS6 := Lib.hid hrs
            have HB6 := Lib.hid hbl
            clear hrow hrs hbl hz hc0 hc1
            go_wp2
            refine ⟨⟨k2 + 1, by omega, by go_num, by rw [HFT.out]; exact HROW6.out, HRS6.out, HB6.out⟩, by simp [intOf]; omega⟩
      · obtain rfl : k2 = l.length := by omega
        rw [List.take_length] at hrow
        have HX := Lib.hid (show RtR w q n f l (.returned (.tuple #[.slice (some ⟨g, 0, none⟩) n gc, .slice G l.length gc2, .bool true])) wr from ⟨_, _, _, _, rfl, Row.bls hrow hgq, hrs.less hgw, hbl⟩)
        clear hrow hrs hbl
        go_wp2
        refine bodyPost_ret (v := .tuple #[.slice (some ⟨g, 0, none⟩) n gc, .slice G l.length gc2, .bool true]) (by simp [results, Tryd.results21, go_sem]) rfl HX.out

theorem refTake_yes (A : Option Addr) (c : Nat) (h : Bls w q A n f) (hn : n ≤ 65534) (hn1 : 1 ≤ n) (hq : q < w.heap.size) (x : Nat) (hx : x ≤ n - cnt f n) :
    Calls Tryd.prog 21 #[.slice A n c, .int .i64 (x : Int)] w (RtR w q n f (cho (frs f n) x)) := by
  by_cases h0 : x = 0
  · have hc := cho_none (L := frs f n) (c := x) (.inl h0)
    rw [hc]
    exact refTake_cut A c h hn hn1 hq x hx (fun w' _ => refFit_low A c _ (by omega)) hc
  · cases hf : fit (frs f n) x with
    | none =>
      have hc := cho_none (L := frs f n) (c := x) (.inr hf)
      rw [hc]
      exact refTake_cut A c h hn hn1 hq x hx (fun w' h' => hf ▸ refFit_any A c h' hn x (by omega) (by omega)) hc
    | some r => exact refTake_some A c h hn hn1 hq x hx (by omega) r.1 r.2 hf
end
end Rn
end Go.Proofs.YtblibjjnbbleeaaDoor
