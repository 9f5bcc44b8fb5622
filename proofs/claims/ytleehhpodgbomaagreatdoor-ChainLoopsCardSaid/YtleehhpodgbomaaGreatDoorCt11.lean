/- Texts laid together: ChnTell, ChnRead, ChnRuns, ChnOpen, ChnLives, ChnTailsLaw, VolArgs. -/
import Derived.Test.YtleehhpodgbomaaGreatDoorCt10
import Derived.Test.YtleehhpodgbomaaGreatDoorCt6
import Derived.Test.YtleehhpodgbomaaGreatDoorCt7
import Derived.Test.YtleehhpodgbomaaGreatDoorCt8
import Derived.Test.YtleehhpodgbomaaGreatDoorCt9
import Derived.IntWalk
import Derived.Test.YtleehhpodgbomaaGreatDoorCt1
import Derived.Deep.Slices
import Derived.OpenShut
import Derived.ChangeOld
import Derived.Lib.SmallJoins
import Derived.Test.YtleehhpodgbomaaGreatDoorCt2
import Derived.Test.YtleehhpodgbomaaGreatDoorCt3
import Derived.Test.YtleehhpodgbomaaGreatDoorCt4
import Derived.Test.YtleehhpodgbomaaGreatDoorCt5
/- What a chain tells: Count, Blocks, Find, Runs. -/
namespace Go.Proofs.YtleehhpodgbomaaGreatDoor
open Go.RowKit Go.MapKept
namespace Chn
open Vol (Hb hb_new hb_grown hb_apart)

/-- parts that may be -/
def Mays (l : List Pt) : Prop := ∀ p ∈ l, Slo.may (p.x : Int) (p.c : Int) (Slo.nx p.q) = true
/-- how many blocks -/
def tot (l : List Pt) : Nat := (l.map Pt.c).sum
theorem tot_snoc {l : List Pt} {m : Nat} (h : m < l.length) : tot (l.take (m + 1)) = tot (l.take m) + l[m].c := by
  unfold tot
  rw [List.take_succ_eq_append_getElem h, List.map_append, List.sum_append]
  simp
theorem tot_le {l : List Pt} (h : Mays l) (k : Nat) : tot (l.take k) ≤ 65534 * l.length := by
  have : ∀ (l : List Pt), Mays l → tot l ≤ 65534 * l.length := by
    intro l
    induction l with
    | nil => intro _; simp [tot]
    | cons p l ih =>
      intro h
      have h1 := ih (fun q hq => h q (List.mem_cons_of_mem _ hq))
      have h2 := Slo.may_lt (h p (by simp))
      unfold tot at h1 ⊢
      simp only [List.map_cons, List.sum_cons, List.length_cons]
      omega
  have h1 := this (l.take k) (fun p hp => h p (List.mem_of_mem_take hp))
  have h2 : (l.take k).length ≤ l.length := by rw [List.length_take]; omega
  omega
/-- all blocks -/
def blk (l : List Pt) : List Nat := l.flatMap fun p => (List.range p.c).map (p.x + ·)
theorem blk_len : ∀ l : List Pt, (blk l).length = tot l
  | [] => rfl
  | p :: l => by
    have := blk_len l
    unfold blk tot at this ⊢
    rw [List.flatMap_cons, List.length_append, this]
    simp

theorem blocksOf_any (w : World) (x c q : Nat) (z : Int) (hz : z = Slo.nx q) (hm : Slo.may (x : Int) (c : Int) (Slo.nx q) = true) :
    Calls Tryz.prog 35 #[.agg #[.int .i64 (x : Int), .int .i64 (c : Int), .int .i64 z]] w fun r w' => r = .returned (.int .i64 (c : Int)) ∧ Below w.heap.size w w' := by
  subst hz
  have hmy := fun w => Slo.may_any w (x : Int) (c : Int) (Slo.nx q)
  rw [hm] at hmy
  have HM := Lib.hid hmy
  clear hmy hm
  generalize Slo.nx q = z at *
  go_enter Tryz.func35, Tryz.ntmps35
  go_wp2_with fail
  have hb0 := (Below.refl w.heap.size w).alloc (Nat.le_refl _) (.cells #[.int .i64 (x : Int), .int .i64 (c : Int), .int .i64 z] 42)
  have HX := Lib.hid (hb_new w #[.int .i64 (x : Int), .int .i64 (c : Int), .int .i64 z] 42)
  have HB := Lib.hid hb0
  clear hb0
  generalize w.alloc (.cells #[.int .i64 (x : Int), .int .i64 (c : Int), .int .i64 z] 42) = w0 at *
  refine (HM.out _).mono ?_
  rintro r w1 ⟨rfl, hb⟩
  have c1 := (HX.out.keep hb).cell 1
  have HB1 := Lib.hid (HB.out.trans (hb.mono HB.out.size))
  clear hb
  go_wp2
  go_ret
  exact ⟨rfl, HB1.out⟩
set_option maxHeartbeats 1000000 in
set_option maxRecDepth 100000 in
theorem count_any (w : World) (A B : Option Addr) (n' c d : Nat) (l : List Pt) (h : Prt w B l) (hm : Mays l) (hl : l.length ≤ 65534) :
    Calls Tryz.prog 17 #[.agg #[.slice A n' c, .slice B l.length d]] w fun r w' => r = .returned (.int .i64 (tot l : Nat)) ∧ Below w.heap.size w w' := by
  have H := Lib.hid h
  have HM := Lib.hid hm
  have HTL := Lib.hid (tot_le hm)
  clear h hm
  go_enter Tryz.func17, Tryz.ntmps17
  go_wp2
  have HB0 := Lib.hid ((Below.refl w.heap.size w).alloc (Nat.le_refl _) (.cells #[.slice A n' c, .slice B l.length d] 36))
  go_loopw [3, 9] (fun cnt i wr => ∃ m : Nat, m ≤ l.length ∧ i = .int .i64 (m : Int) ∧ cnt = .int .i64 (tot (l.take m) : Nat) ∧ Below w.heap.size w wr) (fun _ i _ => l.length - (intOf i).toNat)
  case atStart => exact ⟨0, Nat.zero_le _, rfl, by simp [tot], HB0.out⟩
  case round =>
    obtain ⟨m, hm, rfl, rfl, hb⟩ := hrel
    clear HB0
    by_cases hlt : m < l.length
    · obtain ⟨b, o, rfl, hbb, hc0, hc1, hc2⟩ := H.out.at' m hlt
      have hc0 := (hb.cell (p := ⟨b, o + m * 3, none⟩) hbb).trans hc0
      have hc1 := (hb.cell (p := ⟨b, o + m * 3 + 1, none⟩) hbb).trans hc1
      have hc2 := (hb.cell (p := ⟨b, o + m * 3 + 2, none⟩) hbb).trans hc2
      have hbb := Nat.lt_of_lt_of_le hbb hb.size
      have HBO := Lib.hid (fun w => blocksOf_any w l[m].x l[m].c l[m].q _ rfl (HM.out _ (List.getElem_mem hlt)))
      have HT := Lib.hid (tot_snoc hlt)
      have ht0 := HTL.out m
      have hcl := (Slo.may_lt (HM.out _ (List.getElem_mem hlt))).2.2.1
      generalize l[m] = p at *
      obtain ⟨p0, x, y, q⟩ := p
      simp only at hc0 hc1 hc2 HBO HT hcl
      generalize Slo.nx q = z at *
      have hba := hb.alloc hb.size (.cells #[.int .i64 (x : Int), .int .i64 (y : Int), .int .i64 z] 42)
      have HB := Lib.hid hba
      generalize tot (l.take m) = T at *
      clear hba hb
      go_wp2_with fail
      refine (HBO.out _).mono ?_
      rintro r w2 ⟨rfl, hb2⟩
      have HB2 := Lib.hid (HB.out.trans (hb2.mono HB.out.size))
      clear hb2
      go_wp2
      refine ⟨⟨m + 1, by omega, by go_num, ?_, HB2.out⟩, by simp [intOf]; omega⟩
      rw [HT.out]
      go_num
    · obtain rfl : m = l.length := by omega
      rw [List.take_length]
      go_wp2
      go_ret
      exact ⟨rfl, hb⟩
end Chn
end Go.Proofs.YtleehhpodgbomaaGreatDoor
/- chain.Read. -/
namespace Go.Proofs.YtleehhpodgbomaaGreatDoor
open Go.RowKit Go.MapKept
namespace Chn
open Vol (Vo Up Kq Hb hb_new hb_grown hb_apart)
theorem run_blocks2 (u v x : Value) (W : World) : (Instr.field 80 (.agg #[u, v, x]) 0).run Tryz.prog W = .ok u W := by kernel_rfl

/-- the boxes and rows of a Read under way -/
structure Rt (w : World) (C : Nat) (l : List Pt) (A : Option Addr) (c : Nat) (B : Option Addr) (d : Nat) (wr : World) : Prop where
  res : Hb wr w.heap.size #[.slice none 0 0, .slice none 0 0] 36
  box : Hb wr C #[.slice A l.length c, .slice B l.length d] 36
  ints : wr.ownsRow w.heap.size 3 1 (.slice A l.length c) l.length (Pack.i64s (slots l))
  prts : wr.ownsRow w.heap.size 42 3 (.slice B l.length d) l.length (pcells l)
  below : Below w.heap.size w wr
theorem Rt.keep {w w1 w2 : World} {C : Nat} {l : List Pt} {A B : Option Addr} {c d : Nat} (h : Rt w C l A c B d w1) (hb : Below w1.heap.size w1 w2) : Rt w C l A c B d w2 :=
  ⟨h.res.keep hb, h.box.keep hb, own_keep3 h.ints hb, own_keep3 h.prts hb, h.below.trans (hb.mono h.below.size)⟩
section
variable {Q : Nat → Prop} {w : World} {vb a n m s : Nat} {W : List Nat} {st sn : Nat}
/-- a row stays where another block is stored to -/
theorem own_far {w : World} {B n s b i : Nat} {e t : TypeId} {v : Value} {xs : List Value} {cs : Array Value} (h : w.ownsRow B e s v n xs) (hb : Hb w b cs t) (ht : e ≠ t) (u : Value) : (w.setCell ⟨b, i, none⟩ u).ownsRow B e s v n xs := by
  rcases h with ⟨h1, h2⟩
  refine ⟨h1, ?_⟩
  rcases h2 with h0 | ⟨g, cap, cur, e2, hB, hh, hr⟩
  · exact .inl h0
  · exact .inr ⟨g, cap, cur, e2, hB, (Below.heap_setCell _ _ _ _ (show g ≠ b from Pm.blk_ne hh hb ht)).trans hh, hr⟩
theorem part_info : (Tryz.prog.info? 42).map (fun i => (i.zero, i.size, i.bytes)) = some (some (.agg #[.int .i64 0, .int .i64 0, .int .i64 0]), 3, 24) := by kernel_rfl
theorem cells_three_new (w : World) (x y z : Value) (t : TypeId) : ∀ j u, [x, y, z][j]? = some u → (w.alloc (.cells #[x, y, z] t)).cell? ((⟨w.heap.size, 0, none⟩ : Addr).add j) = some u := by
  intro j u hj
  match j, hj with
  | 0, hj =>
    simp at hj
    subst hj
    simp [Addr.add]
  | 1, hj =>
    simp at hj
    subst hj
    simp [Addr.add]
  | 2, hj =>
    simp at hj
    subst hj
    simp [Addr.add]
theorem hb_apart3 {w : World} {b : Nat} {cs : Array Value} {t e : TypeId} {B n s : Nat} {v : Value} {xs : List Value} (h : Hb w b cs t) (ho : w.ownsRow B e s v n xs) (ht : e ≠ t) : v.ownBlock ≠ some b := by
  rcases ho.2 with ⟨e1, _⟩ | ⟨g, cap, cur, e1, _, hg, _⟩
  · rw [e1]; simp [Value.ownBlock]
  · rw [e1]
    simp only [Value.ownBlock, ne_eq, Option.some.injEq]
    exact Pm.blk_ne hg h ht
/-- a slice's length -/
def lenOf : Value → Nat
  | .slice _ n _ => n
  | _ => 0
/-- what Read leaves -/
def RdTo (n : Nat) (f : Nat → Option (Nat × Nat × Nat)) (h : Int) (w : World) (r : Ending) (w' : World) : Prop :=
  match rd (pat f n) n h with
  | none => r = .returned (.tuple #[.agg #[.slice none 0 0, .slice none 0 0], .int .i64 2]) ∧ Below w.heap.size w w'
  | some l => ∃ (A : Option Addr) (c : Nat) (B : Option Addr) (d : Nat), r = .returned (.tuple #[.agg #[.slice A l.length c, .slice B l.length d], .int .i64 0]) ∧ Pack.Nts w' A (slots l) ∧ Prt w' B l ∧ l.length ≤ c ∧ l.length ≤ d ∧ Below w.heap.size w w'

theorem row_cap3 {w : World} {B n c : Nat} {e : TypeId} {G : Option Addr} {xs : List Value} {s : Nat} (h : w.ownsRow B e s (.slice G n c) n xs) : n ≤ c := by
  rcases h.2 with ⟨e, h0⟩ | ⟨g, cap, cur, e, _, _, hn, _⟩
  · injection e with e1 e2 e3; omega
  · injection e with e1 e2 e3; omega
theorem RdTo.none {n : Nat} {f : Nat → Option (Nat × Nat × Nat)} {h : Int} {w w' : World} {r : Ending} (hn : rd (pat f n) n h = Option.none) (hr : r = .returned (.tuple #[.agg #[.slice Option.none 0 0, .slice Option.none 0 0], .int .i64 2])) (hb : Below w.heap.size w w') : RdTo n f h w r w' := by
  unfold RdTo
  rw [hn]
  exact ⟨hr, hb⟩
theorem RdTo.some {n : Nat} {f : Nat → Option (Nat × Nat × Nat)} {h : Int} {w w' : World} {r : Ending} {l : List Pt} {A B : Option Addr} {c d : Nat} (hn : rd (pat f n) n h = Option.some l) (hr : r = .returned (.tuple #[.agg #[.slice A l.length c, .slice B l.length d], .int .i64 0])) (h1 : Pack.Nts w' A (slots l)) (h2 : Prt w' B l) (h3 : l.length ≤ c) (h4 : l.length ≤ d) (hb : Below w.heap.size w w') : RdTo n f h w r w' := by
  unfold RdTo
  rw [hn]
  exact ⟨A, c, B, d, hr, h1, h2, h3, h4, hb⟩

set_option maxHeartbeats 4000000 in
set_option maxRecDepth 100000 in
theorem read_any (h : Vo Q w vb a n m s W st sn) (hd : Int) :
    Calls Tryz.prog 9 #[.pointer (some ⟨vb, 0, none⟩), .int .i64 hd] w (RdTo n (fw W (16 + m * 8)) hd w) := by
  have HG := Lib.hid (fun w' (hb : Below w.heap.size w w') => Vol.geometry_any (h.keep hb))
  have HV := Lib.hid h
  have hrf := run_blocks2 (.int .i64 (n : Int)) (.int .i64 (m : Int)) (.int .i64 (s : Int))
  clear h
  go_enter Tryz.func9, Tryz.ntmps9
  go_wp2_with fail
  have hb0 := (Below.refl w.heap.size w).alloc (Nat.le_refl _) (.cells #[.slice none 0 0, .slice none 0 0] 36)
  have HX0 := Lib.hid (hb_new w #[.slice none 0 0, .slice none 0 0] 36)
  have HB0 := Lib.hid hb0
  clear hb0
  generalize w.alloc (.cells #[.slice none 0 0, .slice none 0 0] 36) = w0 at *
  refine (HG.out _ HB0.out).mono ?_
  rintro r w1 ⟨rfl, hb⟩
  have HX1 := Lib.hid (HX0.out.keep hb)
  have HB1 := Lib.hid (HB0.out.trans (hb.mono HB0.out.size))
  clear hb HX0 HB0 HG
  go_wp2_with fail
  have HR := Lib.hid (show Rt w w1.heap.size [] none 0 none 0 (w1.alloc (.cells #[.slice none 0 0, .slice none 0 0] 36)) from
    ⟨HX1.out.keep ((Below.refl _ _).alloc (Nat.le_refl _) _), hb_new w1 _ _, World.ownsRow_nil .., World.ownsRow_nil .., HB1.out.alloc HB1.out.size _⟩)
  generalize hC : w1.heap.size = C at *
  have HCS := Lib.hid (show w.heap.size < C by rw [← hC]; exact HX1.out.lt)
  clear hC HX1 HB1
  go_loopw [8] (fun s' wr => ∃ (sv : Int) (l : List Pt) (A : Option Addr) (c : Nat) (B : Option Addr) (d : Nat), s' = .int .i64 sv ∧ Path (pat (fw W (16 + m * 8)) n) hd l sv ∧ l.length ≤ n ∧ Rt w C l A c B d wr) (fun _ wr => n - ((wr.cell? ⟨C, 0, none⟩).map lenOf).getD 0)
  case atStart => exact ⟨hd, [], none, 0, none, 0, rfl, rfl, Nat.zero_le _, HR.out⟩
  case round =>
    obtain ⟨sv, l, A, c, B, d, rfl, hpath, hln, hrt⟩ := hrel
    have HRT := Lib.hid hrt
    have HPT := Lib.hid hpath
    have b0 := hrt.box.cell 0
    have b1 := hrt.box.cell 1
    have bl := hrt.box.lt
    have bf0 := hrt.box.frozen 0
    have bf1 := hrt.box.frozen 1
    have rl := hrt.res.lt
    have r0 := hrt.res.cell 0
    have r1 := hrt.res.cell 1
    have rf0 := hrt.res.frozen 0
    have rf1 := hrt.res.frozen 1
    clear hrt hpath
    by_cases hs : sv = -1
    · subst hs
      go_wp2
      have hR := HRT.out
      have hB0 := hR.res.set 0 (.slice A l.length c)
      have i1 := own_far (i := 0) hR.ints hR.res (by decide) (.slice A l.length c)
      have p1 := own_far (i := 0) hR.prts hR.res (by decide) (.slice A l.length c)
      have i2 := own_far (i := 1) i1 hB0 (by decide) (.slice B l.length d)
      have p2 := own_far (i := 1) p1 hB0 (by decide) (.slice B l.length d)
      have hmem := path_mem HPT.out
      have hn64 := HV.out.num.1.2
      refine bodyPost_ret (v := .tuple #[.agg #[.slice A l.length c, .slice B l.length d], .int .i64 0]) ?_ rfl (RdTo.some (rd_iff.2 ⟨HPT.out, hln⟩) rfl (Pack.own_nts i2 (fun x hx => ?_) (by omega)) (own_prt p2).1 (Pack.row_cap i2) (row_cap3 p2) ?_)
      · simp [results, Tryz.results9, go_sem, r0, r1]
      · obtain ⟨p, hp, rfl⟩ := List.mem_map.1 hx
        have := (hmem p hp).1
        omega
      · exact (hR.below.setCell (p := ⟨w.heap.size, 0, none⟩) (Nat.le_refl _) _).setCell (p := ⟨w.heap.size, 1, none⟩) (Nat.le_refl _) _
    · have hsb : (sv != -1) = true := by simp [hs]
      by_cases hlen : l.length = n
      · have HN := Lib.hid (rd_full HPT.out hs hlen)
        have hR := HRT.out
        have HBE := Lib.hid hR.below
        clear hR
        go_wp2
        refine bodyPost_ret (v := .tuple #[.agg #[.slice none 0 0, .slice none 0 0], .int .i64 2]) ?_ rfl (RdTo.none HN.out rfl ?_)
        · simp [results, Tryz.results9, go_sem, r0, r1]
        · exact (HBE.out.setCell (p := ⟨w.heap.size, 0, none⟩) (Nat.le_refl _) _).setCell (p := ⟨w.heap.size, 1, none⟩) (Nat.le_refl _) _
      · have hls : ((l.length : Int) == (n : Int)) = false := beq_eq_false_iff_ne.2 (by omega)
        by_cases hin : 0 ≤ sv ∧ sv < (n : Int)
        · obtain ⟨i, rfl⟩ := Int.eq_ofNat_of_zero_le hin.1
          have hil : i < n := by omega
          have hsl := fun w' (hb : Below w.heap.size w w') => Vol.slot_yes (HV.out.keep hb) i hil
          have HFW := Lib.hid (show fw W (16 + m * 8) i = Slo.dec (W[16 + m * 8 + i]?.getD 0) from rfl)
          generalize Slo.dec (W[16 + m * 8 + i]?.getD 0) = dc at *
          cases dc with
          | none =>
            have HN := Lib.hid (rd_stop (n := n) HPT.out hs (pat_none HFW.out))
            simp only [Slo.gv, Slo.ev] at hsl
            have HS := Lib.hid hsl
            clear hsl
            go_wp2_with fail
            refine (HS.out _ HRT.out.below).mono ?_
            rintro r w2 ⟨rfl, hb2⟩
            have HRT2 := Lib.hid ((HRT.out.keep hb2).keep ((Below.refl w2.heap.size w2).alloc (Nat.le_refl _) (.cells #[.int .i64 0, .int .i64 0, .int .i64 0] 42)))
            have HP2 := Lib.hid (hb_new w2 #[.int .i64 0, .int .i64 0, .int .i64 0] 42)
            have r02 := HRT2.out.res.cell 0
            have r12 := HRT2.out.res.cell 1
            have rl2 := HRT2.out.res.lt
            have rf02 := HRT2.out.res.frozen 0
            have rf12 := HRT2.out.res.frozen 1
            have HBE := Lib.hid HRT2.out.below
            clear hb2 HS r0 r1 rl rf0 rf1 b0 b1 bl bf0 bf1
            go_wp2
            generalize w2.alloc (.cells #[.int .i64 0, .int .i64 0, .int .i64 0] 42) = w3 at *
            refine bodyPost_ret (v := .tuple #[.agg #[.slice none 0 0, .slice none 0 0], .int .i64 2]) ?_ rfl (RdTo.none HN.out rfl ?_)
            · simp [results, Tryz.results9, go_sem, r02, r12]
            · exact (HBE.out.setCell (p := ⟨w.heap.size, 0, none⟩) (Nat.le_refl _) _).setCell (p := ⟨w.heap.size, 1, none⟩) (Nat.le_refl _) _
          | some t =>
            obtain ⟨x, y, q⟩ := t
            simp only [Slo.gv, Slo.ev] at hsl
            have HS := Lib.hid hsl
            have hmy := Slo.may_lt (Slo.dec_some HFW.out).1
            have HWI := Lib.hid (fun w => within_any w n (x : Int) (y : Int) (by have := HV.out.num.1.2; omega) (by omega))
            have HRO := Lib.hid (fun w => runOf_any w (x : Int) (y : Int) (Slo.nx q))
            have HWN := Lib.hid (show win n (x : Int) (y : Int) = decide (x + y ≤ n) from decide_eq_decide.2 (by omega))
            obtain ⟨z, hz⟩ : ∃ z, z = Slo.nx q := ⟨_, rfl⟩
            have HZ := Lib.hid hz
            rw [← hz] at HS HRO
            clear hsl hz
            by_cases hxy : x + y ≤ n
            · have HPN := Lib.hid (path_snoc HPT.out hs (pat_yes (n := n) HFW.out hil hxy))
              rw [HWN.out, decide_eq_true hxy] at HWI
              clear HWN
              obtain ⟨j1, hj1, hj2, hj3, hj4⟩ := info_parts Pack.int_info
              obtain ⟨k1, hk1, hk2, hk3, hk4⟩ := info_parts part_info
              have hn64 := HV.out.num.1.2
              go_wp2_with fail
              refine (HS.out _ HRT.out.below).mono ?_
              rintro r w2 ⟨rfl, hb2⟩
              have HRT2 := Lib.hid ((HRT.out.keep hb2).keep ((Below.refl w2.heap.size w2).alloc (Nat.le_refl _) (.cells #[.int .i64 (x : Int), .int .i64 (y : Int), .int .i64 z] 42)))
              have HP2 := Lib.hid (hb_new w2 #[.int .i64 (x : Int), .int .i64 (y : Int), .int .i64 z] 42)
              have HPR := Lib.hid (show w.heap.size ≤ w2.heap.size from Nat.le_trans HRT.out.below.size hb2.size)
              have HPB := Lib.hid (show (Value.slice B l.length d).ownBlock ≠ some w2.heap.size from fun hg => by have := (World.ownsRow.lt HRT.out.prts _ hg).2; have := hb2.size; omega)
              clear hb2 HS r0 r1 rl rf0 rf1 b0 b1 bl bf0 bf1
              go_wp2_with fail
              generalize hw3 : w2.alloc (.cells #[.int .i64 (x : Int), .int .i64 (y : Int), .int .i64 z] 42) = w3 at *
              clear hw3
              generalize w2.heap.size = pb at *
              refine (HRO.out _).mono ?_
              rintro r w4 ⟨rfl, hb4⟩
              have HRT4 := Lib.hid (HRT2.out.keep hb4)
              have HP4 := Lib.hid (HP2.out.keep hb4)
              clear hb4 HRT2 HP2
              go_wp2_with fail
              refine (HWI.out _).mono ?_
              rintro r w5 ⟨rfl, hb5⟩
              have HRT5 := Lib.hid (HRT4.out.keep hb5)
              have HP5 := Lib.hid (HP4.out.keep hb5)
              clear hb5 HRT4 HP4
              have b05 := HRT5.out.box.cell 0
              have b15 := HRT5.out.box.cell 1
              have bl5 := HRT5.out.box.lt
              have bs5 := HRT5.out.below.size
              have HI5 := Lib.hid (HRT5.out.ints.alloc (.cells #[.int .i64 (i : Int)] 3))
              go_wp2_with (first
              | (at_builtin
                 refine wpList_append_own_at _ rfl (.tmp 40) (.tmp 42) 33 rfl w.heap.size 3 j1 (.int .i64 0) 1 8 Tryz.underlying33 hj1 hj2 hj3 hj4 rfl (by decide) (.slice A l.length c) l.length (Pack.i64s (slots l)) rfl HI5.out ⟨w5.heap.size, 0, none⟩ 1 1 [.int .i64 (i : Int)] rfl rfl (cell_one_new _ _ _) (by simp [Value.oneCell']) (by unfold maxLen; omega) (by omega) (by simp; omega) ?_
                 intro v6 w6 hown6 hgr6 _ hat6
                 obtain ⟨G6, c6, rfl⟩ := Pack.row_slice hown6
                 have hal := (Below.refl w5.heap.size w5).alloc (Nat.le_refl _) (.cells #[.int .i64 (i : Int)] 3)
                 have hr6 := hb_grown (HRT5.out.res.keep hal) hgr6 (hb_apart HRT5.out.res HRT5.out.ints (by decide))
                 have hb6 := hb_grown (HRT5.out.box.keep hal) hgr6 (hb_apart HRT5.out.box HRT5.out.ints (by decide))
                 have hp6 := hb_grown (HP5.out.keep hal) hgr6 (hb_apart HP5.out HRT5.out.ints (by decide))
                 have hq6 := (HRT5.out.prts.alloc (.cells #[.int .i64 (i : Int)] 3)).kept hgr6 (Pack.rows_apart HRT5.out.prts HRT5.out.ints (by decide))
                 have hbl6 := (HRT5.out.below.alloc HRT5.out.below.size (.cells #[.int .i64 (i : Int)] 3)).grown hgr6 (by simp; omega) (fun k hk => row_base_lt3 HRT5.out.ints hk)
                 have hcp : ¬ C = pb := Pm.blk_ne hb6 hp6 (by decide)
                 have hcr : ¬ C = w.heap.size := by have := HCS.out; omega
                 have HR7 := Lib.hid (hr6.far (p := ⟨C, 0, none⟩) (fun e => hcr e.symm) (.slice G6 (l.length + 1) c6))
                 have HB7 := Lib.hid (hb6.set 0 (.slice G6 (l.length + 1) c6))
                 have HP7 := Lib.hid (hp6.far (p := ⟨C, 0, none⟩) (fun e => hcp e.symm) (.slice G6 (l.length + 1) c6))
                 have HI7 := Lib.hid (own_far (i := 0) hown6 hb6 (by decide) (.slice G6 (l.length + 1) c6))
                 have HQ7 := Lib.hid (own_far (i := 0) hq6 hb6 (by decide) (.slice G6 (l.length + 1) c6))
                 have HBL7 := Lib.hid (hbl6.setCell (p := ⟨C, 0, none⟩) (by show w.heap.size ≤ C; have := HCS.out; omega) (.slice G6 (l.length + 1) c6))
                 have b06 := hb6.cell 0
                 have b16 := hb6.cell 1
                 have f06 := hb6.frozen 0
                 have bl6 := hb6.lt
                 have q06 := hp6.cell 0
                 have q16 := hp6.cell 1
                 have q26 := hp6.cell 2
                 have hz7 : (w6.setCell ⟨C, 0, none⟩ (.slice G6 (l.length + 1) c6)).heap.size = w6.heap.size := by simp [World.setCell]
                 have hn7 := cells_three_new (w6.setCell ⟨C, 0, none⟩ (.slice G6 (l.length + 1) c6)) (.int .i64 (x : Int)) (.int .i64 (y : Int)) (.int .i64 z) 42
                 rw [hz7] at hn7
                 have HN7 := Lib.hid hn7
                 have HQ8 := Lib.hid (HQ7.out.alloc (.cells #[.int .i64 (x : Int), .int .i64 (y : Int), .int .i64 z] 42))
                 have bs6 : w.heap.size ≤ w6.heap.size := by have := HBL7.out.size; omega
                 clear hown6 hgr6 hat6 hal hr6 hb6 hp6 hq6 hbl6 hn7 hz7)
              | (at_builtin
                 refine wpList_append_own_at _ rfl (.tmp 46) (.tmp 48) 34 rfl w.heap.size 42 k1 (.agg #[.int .i64 0, .int .i64 0, .int .i64 0]) 3 24 Tryz.underlying34 hk1 hk2 hk3 hk4 rfl (by decide) (.slice B l.length d) l.length (pcells l) rfl HQ8.out ⟨w6.heap.size, 0, none⟩ 1 1 [.int .i64 (x : Int), .int .i64 (y : Int), .int .i64 z] rfl rfl HN7.out (by simp [Value.oneCell']) (by unfold maxLen; omega) (by omega) (by simp [World.setCell]; omega) ?_
                 intro v8 w8 hown8 hgr8 _ hat8
                 obtain ⟨G8, d8, rfl⟩ := row_slice3 hown8
                 have hal := (Below.refl (w6.setCell ⟨C, 0, none⟩ (.slice G6 (l.length + 1) c6)).heap.size (w6.setCell ⟨C, 0, none⟩ (.slice G6 (l.length + 1) c6))).alloc (Nat.le_refl _) (.cells #[.int .i64 (x : Int), .int .i64 (y : Int), .int .i64 z] 42)
                 have hr8 := hb_grown (HR7.out.keep hal) hgr8 (hb_apart3 HR7.out HQ7.out (by decide))
                 have hb8 := hb_grown (HB7.out.keep hal) hgr8 (hb_apart3 HB7.out HQ7.out (by decide))
                 have hp8 := hb_grown (HP7.out.keep hal) hgr8 HPB.out
                 have hi8 := (HI7.out.alloc (.cells #[.int .i64 (x : Int), .int .i64 (y : Int), .int .i64 z] 42)).kept hgr8 (Pack.rows_apart HI7.out HQ7.out (by decide))
                 have hbl8 := (HBL7.out.alloc HBL7.out.size (.cells #[.int .i64 (x : Int), .int .i64 (y : Int), .int .i64 z] 42)).grown hgr8 (by simp [World.setCell]; omega) (fun k hk => row_base_lt3 HQ7.out hk)
                 have HR9 := Lib.hid (hr8.far (p := ⟨C, 1, none⟩) (fun e => hcr e.symm) (.slice G8 (l.length + 1) d8))
                 have HB9 := Lib.hid (hb8.set 1 (.slice G8 (l.length + 1) d8))
                 have HI9 := Lib.hid (own_far (i := 1) hi8 hb8 (by decide) (.slice G8 (l.length + 1) d8))
                 have HQ9 := Lib.hid (own_far (i := 1) hown8 hb8 (by decide) (.slice G8 (l.length + 1) d8))
                 have HBL9 := Lib.hid (hbl8.setCell (p := ⟨C, 1, none⟩) (by show w.heap.size ≤ C; have := HCS.out; omega) (.slice G8 (l.length + 1) d8))
                 have b18 := hb8.cell 1
                 have f18 := hb8.frozen 1
                 have bl8 := hb8.lt
                 have q08 := hp8.cell 0
                 have q18 := hp8.cell 1
                 have q28 := hp8.cell 2
                 have pl8 := hp8.lt
                 clear hown8 hgr8 hat8 hal hr8 hb8 hp8 hi8 hbl8))
              have e : (l ++ [(⟨i, x, y, q⟩ : Pt)]).length = l.length + 1 := by simp
              refine ⟨⟨z, l ++ [⟨i, x, y, q⟩], G6, c6, G8, d8, rfl, by rw [HZ.out]; exact HPN.out, by rw [e]; omega, ⟨HR9.out, by rw [e]; exact HB9.out, ?_, ?_, HBL9.out⟩⟩, ?_⟩
              · rw [e, slots_snoc]
                unfold Pack.i64s
                rw [List.map_append]
                exact HI9.out
              · rw [e, pcells_snoc]
                simp only
                rw [← HZ.out]
                exact HQ9.out
              · rw [HB9.out.cell 0, HRT.out.box.cell 0]
                simp [lenOf]
                omega
            · have HN := Lib.hid (rd_stop (n := n) HPT.out hs (pat_far HFW.out (by omega)))
              rw [HWN.out, decide_eq_false hxy] at HWI
              clear HWN
              go_wp2_with fail
              refine (HS.out _ HRT.out.below).mono ?_
              rintro r w2 ⟨rfl, hb2⟩
              have HRT2 := Lib.hid ((HRT.out.keep hb2).keep ((Below.refl w2.heap.size w2).alloc (Nat.le_refl _) (.cells #[.int .i64 (x : Int), .int .i64 (y : Int), .int .i64 z] 42)))
              have HP2 := Lib.hid (hb_new w2 #[.int .i64 (x : Int), .int .i64 (y : Int), .int .i64 z] 42)
              have r02 := HRT2.out.res.cell 0
              have r12 := HRT2.out.res.cell 1
              have rl2 := HRT2.out.res.lt
              have rf02 := HRT2.out.res.frozen 0
              have rf12 := HRT2.out.res.frozen 1
              have HBE := Lib.hid HRT2.out.below
              clear hb2 HS r0 r1 rl rf0 rf1 b0 b1 bl bf0 bf1
              go_wp2_with fail
              generalize w2.alloc (.cells #[.int .i64 (x : Int), .int .i64 (y : Int), .int .i64 z] 42) = w3 at *
              refine (HRO.out _).mono ?_
              rintro r w4 ⟨rfl, hb4⟩
              have HRT4 := Lib.hid (HRT2.out.keep hb4)
              clear hb4 r02 r12 rl2 rf02 rf12 HRT2 HP2 HBE
              go_wp2_with fail
              refine (HWI.out _).mono ?_
              rintro r w5 ⟨rfl, hb5⟩
              have HRT5 := Lib.hid (HRT4.out.keep hb5)
              have r05 := HRT5.out.res.cell 0
              have r15 := HRT5.out.res.cell 1
              have rl5 := HRT5.out.res.lt
              have rf05 := HRT5.out.res.frozen 0
              have rf15 := HRT5.out.res.frozen 1
              clear hb5 HRT4
              go_wp2
              refine bodyPost_ret (v := .tuple #[.agg #[.slice none 0 0, .slice none 0 0], .int .i64 2]) ?_ rfl (RdTo.none HN.out rfl ?_)
              · simp [results, Tryz.results9, go_sem, r05, r15]
              · exact (HRT5.out.below.setCell (p := ⟨w.heap.size, 0, none⟩) (Nat.le_refl _) _).setCell (p := ⟨w.heap.size, 1, none⟩) (Nat.le_refl _) _
        · have HN := Lib.hid (rd_stop (n := n) HPT.out hs (pat_out (by omega)))
          have HS := Lib.hid (fun w' (hb : Below w.heap.size w w') => Vol.slot_no (HV.out.keep hb) sv (by omega))
          go_wp2_with fail
          refine (HS.out _ HRT.out.below).mono ?_
          rintro r w2 ⟨rfl, hb2⟩
          have HRT2 := Lib.hid ((HRT.out.keep hb2).keep ((Below.refl w2.heap.size w2).alloc (Nat.le_refl _) (.cells #[.int .i64 0, .int .i64 0, .int .i64 0] 42)))
          have HP2 := Lib.hid (hb_new w2 #[.int .i64 0, .int .i64 0, .int .i64 0] 42)
          have r02 := HRT2.out.res.cell 0
          have r12 := HRT2.out.res.cell 1
          have rl2 := HRT2.out.res.lt
          have rf02 := HRT2.out.res.frozen 0
          have rf12 := HRT2.out.res.frozen 1
          have HBE := Lib.hid HRT2.out.below
          clear hb2 HS r0 r1 rl rf0 rf1 b0 b1 bl bf0 bf1
          go_wp2
          generalize w2.alloc (.cells #[.int .i64 0, .int .i64 0, .int .i64 0] 42) = w3 at *
          refine bodyPost_ret (v := .tuple #[.agg #[.slice none 0 0, .slice none 0 0], .int .i64 2]) ?_ rfl (RdTo.none HN.out rfl ?_)
          · simp [results, Tryz.results9, go_sem, r02, r12]
          · exact (HBE.out.setCell (p := ⟨w.heap.size, 0, none⟩) (Nat.le_refl _) _).setCell (p := ⟨w.heap.size, 1, none⟩) (Nat.le_refl _) _
end
end Chn
end Go.Proofs.YtleehhpodgbomaaGreatDoor
/- What a chain tells: Runs, Blocks. -/
namespace Go.Proofs.YtleehhpodgbomaaGreatDoor
open Go.RowKit Go.MapKept
namespace Chn
open Vol (Hb hb_new hb_grown hb_apart)

theorem blk_snoc {l : List Pt} {m : Nat} (h : m < l.length) : blk (l.take (m + 1)) = blk (l.take m) ++ (List.range l[m].c).map (l[m].x + ·) := by
  unfold blk
  rw [List.take_succ_eq_append_getElem h, List.flatMap_append]
  simp
/-- the first m runs stand in a row -/
def Rw (cs : Array Value) (l : List Pt) (m : Nat) : Prop := ∀ j (h : j < l.length), j < m → cs[j * 2]? = some (.int .i64 (l[j].x : Int)) ∧ cs[j * 2 + 1]? = some (.int .i64 (l[j].c : Int))
theorem Rw.next {cs : Array Value} {l : List Pt} {m : Nat} (h : Rw cs l m) (hm : m < l.length) (hs : cs.size = l.length * 2) : Rw ((cs.setIfInBounds (m * 2) (.int .i64 (l[m].x : Int))).setIfInBounds (m * 2 + 1) (.int .i64 (l[m].c : Int))) l (m + 1) := by
  intro j hj hjm
  by_cases e : j = m
  · subst e
    refine ⟨?_, ?_⟩
    · rw [Array.getElem?_setIfInBounds_ne (by omega), Array.getElem?_setIfInBounds_self_of_lt (by omega)]
    · rw [Array.getElem?_setIfInBounds_self_of_lt (by simp; omega)]
  · obtain ⟨h0, h1⟩ := h j hj (by omega)
    refine ⟨?_, ?_⟩
    · rw [Array.getElem?_setIfInBounds_ne (by omega), Array.getElem?_setIfInBounds_ne (by omega)]; exact h0
    · rw [Array.getElem?_setIfInBounds_ne (by omega), Array.getElem?_setIfInBounds_ne (by omega)]; exact h1
set_option maxHeartbeats 1000000 in
set_option maxRecDepth 100000 in
theorem runs_any (w : World) (A B : Option Addr) (n' c d : Nat) (l : List Pt) (h : Prt w B l) (hm : Mays l) (hl : l.length ≤ 65534) :
    Calls Tryz.prog 15 #[.agg #[.slice A n' c, .slice B l.length d]] w fun r w' => ∃ G gc, r = .returned (.slice G l.length gc) ∧ Prs w' G (l.map fun p => ((p.x : Int), (p.c : Int))) ∧ Below w.heap.size w w' := by
  have H := Lib.hid h
  have HM := Lib.hid hm
  clear h hm
  go_enter Tryz.func15, Tryz.ntmps15
  obtain ⟨i0, hi0, hz0, hz1, hz2⟩ := info_parts Rn.run_info
  have hmk := fun (W : World) => run_makeSlice (P := Tryz.prog) (w := W) 53 59 i0 (.agg #[.int .i64 0, .int .i64 0]) Tryz.underlying53 hi0 hz0 .i64 .i64 (l.length : Int) (l.length : Int) (by omega) (by omega) (by rw [hz1]; omega) (by rw [hz2]; omega) (by omega)
  simp only [Int.toNat_natCast] at hmk
  have HB0 := Lib.hid (((Below.refl w.heap.size w).alloc (Nat.le_refl _) (.cells #[.slice A n' c, .slice B l.length d] 36)).alloc (by simp) (.cells (madeCells #[.int .i64 0, .int .i64 0] (l.length * 2)) 59))
  have hrw := hb_new (w.alloc (.cells #[.slice A n' c, .slice B l.length d] 36)) (madeCells #[.int .i64 0, .int .i64 0] (l.length * 2)) 59
  rw [World.size_alloc] at hrw
  have HRW := Lib.hid hrw
  clear hrw
  go_wp2
  clear hmk
  have HRO := Lib.hid runOf_any
  go_loopw [13] (fun i wr => ∃ (m : Nat) (cs : Array Value), m ≤ l.length ∧ i = .int .i64 (m : Int) ∧ Hb wr (w.heap.size + 1) cs 59 ∧ cs.size = l.length * 2 ∧ Rw cs l m ∧ Below w.heap.size w wr) (fun i _ => l.length - (intOf i).toNat)
  case atStart => exact ⟨0, _, Nat.zero_le _, rfl, HRW.out, size_madeCells _ _, fun j h => by omega, HB0.out⟩
  case round =>
    obtain ⟨m, cs, hm, rfl, hrw, hcs, hfd, hb⟩ := hrel
    clear HB0 HRW
    by_cases hlt : m < l.length
    · obtain ⟨b, o, rfl, hbb, hc0, hc1, hc2⟩ := H.out.at' m hlt
      have hc0 := (hb.cell (p := ⟨b, o + m * 3, none⟩) hbb).trans hc0
      have hc1 := (hb.cell (p := ⟨b, o + m * 3 + 1, none⟩) hbb).trans hc1
      have hc2 := (hb.cell (p := ⟨b, o + m * 3 + 2, none⟩) hbb).trans hc2
      have hbb := Nat.lt_of_lt_of_le hbb hb.size
      have HNX := Lib.hid (hfd.next hlt hcs)
      generalize l[m] = p at *
      obtain ⟨p0, x, y, q⟩ := p
      simp only at hc0 hc1 hc2 HNX
      generalize Slo.nx q = z at *
      have hal := (Below.refl wr.heap.size wr).alloc (Nat.le_refl _) (.cells #[.int .i64 (x : Int), .int .i64 (y : Int), .int .i64 z] 42)
      have HAL := Lib.hid hal
      have HB := Lib.hid hb
      have HW := Lib.hid hrw
      have HCS := Lib.hid hcs
      clear hal hb hrw hcs hfd
      go_wp2_with fail
      generalize wr.alloc (.cells #[.int .i64 (x : Int), .int .i64 (y : Int), .int .i64 z] 42) = w1 at *
      refine (HRO.out _ _ _ _).mono ?_
      rintro r w2 ⟨rfl, hb2⟩
      have hb3 := HAL.out.trans (hb2.mono HAL.out.size)
      have HW2 := Lib.hid (HW.out.keep hb3)
      have HB2 := Lib.hid (HB.out.trans (hb3.mono HB.out.size))
      have hcs := HCS.out
      obtain ⟨v0, k0⟩ : ∃ v, w2.cell? ⟨w.heap.size + 1, m * 2, none⟩ = some v := ⟨_, (HW2.out.cell (m * 2)).trans (Array.getElem?_eq_getElem (by omega))⟩
      obtain ⟨v1, k1⟩ : ∃ v, w2.cell? ⟨w.heap.size + 1, m * 2 + 1, none⟩ = some v := ⟨_, (HW2.out.cell (m * 2 + 1)).trans (Array.getElem?_eq_getElem (by omega))⟩
      have f0 := HW2.out.frozen (m * 2)
      have f1 := HW2.out.frozen (m * 2 + 1)
      have gl := HW2.out.lt
      clear hb2 hb3 hcs
      go_wp2
      refine ⟨⟨m + 1, _, by omega, by go_num, (HW2.out.set (m * 2) (.int .i64 (x : Int))).set (m * 2 + 1) (.int .i64 (y : Int)), by simp [HCS.out], HNX.out, ?_⟩, by simp [intOf]; omega⟩
      exact (HB2.out.setCell (p := ⟨w.heap.size + 1, m * 2, none⟩) (by show w.heap.size ≤ w.heap.size + 1; omega) _).setCell (p := ⟨w.heap.size + 1, m * 2 + 1, none⟩) (by show w.heap.size ≤ w.heap.size + 1; omega) _
    · obtain rfl : m = l.length := by omega
      go_wp2
      go_ret
      refine ⟨some ⟨w.heap.size + 1, 0, none⟩, l.length, rfl, ⟨?_, by simp; omega, fun j hj => ?_⟩, hb⟩
      · intro r hr
        obtain ⟨p, hp, rfl⟩ := List.mem_map.1 hr
        have := Slo.may_lt (HM.out p hp)
        simp only
        omega
      · have hj' : j < l.length := by simpa using hj
        obtain ⟨h0, h1⟩ := hfd j hj' hj'
        refine ⟨_, 0, rfl, hrw.lt, ?_, ?_⟩
        · rw [Nat.zero_add, hrw.cell, h0]; simp
        · rw [Nat.zero_add, hrw.cell, h1]; simp
set_option maxHeartbeats 1000000 in
set_option maxRecDepth 100000 in
theorem blocks_any (w : World) (A B : Option Addr) (n' c d : Nat) (l : List Pt) (h : Prt w B l) (hm : Mays l) (hl : l.length ≤ 65534) :
    Calls Tryz.prog 16 #[.agg #[.slice A n' c, .slice B l.length d]] w fun r w' => ∃ G gc, r = .returned (.slice G (tot l) gc) ∧ Pack.Nts w' G ((blk l).map Int.ofNat) ∧ Below w.heap.size w w' := by
  have H := Lib.hid h
  have HC := Lib.hid (fun w' (hb : Below w.heap.size w w') => count_any w' A B n' c d l (h.keep hb) hm hl)
  have HM := Lib.hid hm
  clear h hm
  go_enter Tryz.func16, Tryz.ntmps16
  go_wp2_with fail
  refine (HC.out _ ((Below.refl w.heap.size w).alloc (Nat.le_refl _) _)).mono ?_
  rintro r w1 ⟨rfl, hb1⟩
  obtain ⟨i0, hi0, hz0, hz1, hz2⟩ := info_parts Pack.int_info
  have htl := tot_le HM.out l.length
  rw [List.take_length] at htl
  have hbw := ((Below.refl w.heap.size w).alloc (Nat.le_refl _) (.cells #[.slice A n' c, .slice B l.length d] 36)).trans (hb1.mono (by simp))
  obtain ⟨w2, hmk, hown, hgr⟩ := run_make_own (P := Tryz.prog) w1 w.heap.size 33 3 i0 (.int .i64 0) 1 Tryz.underlying33 hi0 hz0 hz1 .i64 .i64 (tot l) (by rw [hz2]; omega) (by unfold maxLen; omega) hbw.size
  have HB2 := Lib.hid (hbw.grown hgr hbw.size (fun k hk => by cases hk))
  have HO := Lib.hid hown
  have HTL := Lib.hid htl
  have x1 := (hb_grown ((hb_new w #[.slice A n' c, .slice B l.length d] 36).keep hb1) hgr (fun e => by cases e)).cell 1
  clear hbw hown hgr hb1 htl
  generalize w1.heap.size = g0 at *
  go_wp2_with fail
  clear hmk x1 HC
  go_loopw [3, 13] (fun v i wr => ∃ (m : Nat) (G : Option Addr) (gc : Nat), m ≤ l.length ∧ i = .int .i64 (m : Int) ∧ v = .slice G (tot (l.take m)) gc ∧ wr.ownsRow w.heap.size 3 1 (.slice G (tot (l.take m)) gc) (tot (l.take m)) (Pack.i64s ((blk (l.take m)).map Int.ofNat)) ∧ Below w.heap.size w wr) (fun _ i _ => l.length - (intOf i).toNat)
  case atStart => exact ⟨0, some ⟨g0, 0, none⟩, tot l, Nat.zero_le _, rfl, rfl, HO.out, HB2.out⟩
  case round =>
    obtain ⟨m, G, gc, hm, rfl, rfl, hrow, hb⟩ := hrel
    clear HO HB2
    by_cases hlt : m < l.length
    · obtain ⟨b, o, rfl, hbb, hc0, hc1, hc2⟩ := H.out.at' m hlt
      have hc0 := (hb.cell (p := ⟨b, o + m * 3, none⟩) hbb).trans hc0
      have hc1 := (hb.cell (p := ⟨b, o + m * 3 + 1, none⟩) hbb).trans hc1
      have hc2 := (hb.cell (p := ⟨b, o + m * 3 + 2, none⟩) hbb).trans hc2
      have hbb := Nat.lt_of_lt_of_le hbb hb.size
      have HBO := Lib.hid (fun w => blocksOf_any w l[m].x l[m].c l[m].q _ rfl (HM.out _ (List.getElem_mem hlt)))
      have HT := Lib.hid (tot_snoc hlt)
      have HK := Lib.hid (blk_snoc hlt)
      have htk := tot_le HM.out m
      have htk2 := tot_le HM.out (m + 1)
      rw [HT.out] at htk2
      have hcl := Slo.may_lt (HM.out _ (List.getElem_mem hlt))
      generalize l[m] = p at *
      obtain ⟨p0, x, y, q⟩ := p
      simp only at hc0 hc1 hc2 HBO HT HK hcl htk2
      generalize Slo.nx q = z at *
      obtain ⟨T, hT⟩ : ∃ T, T = tot (l.take m) := ⟨_, rfl⟩
      obtain ⟨K, hK⟩ : ∃ K, K = blk (l.take m) := ⟨_, rfl⟩
      rw [← hT] at hrow HT htk htk2 ⊢
      rw [← hK] at hrow HK
      clear hT hK
      have hal := (Below.refl wr.heap.size wr).alloc (Nat.le_refl _) (.cells #[.int .i64 (x : Int), .int .i64 (y : Int), .int .i64 z] 42)
      have HB := Lib.hid (hb.trans (hal.mono hb.size))
      have HX := Lib.hid (hb_new wr #[.int .i64 (x : Int), .int .i64 (y : Int), .int .i64 z] 42)
      have HO := Lib.hid (own_keep3 hrow hal)
      clear hal hb hrow
      go_wp2_with fail
      generalize hw3 : wr.alloc (.cells #[.int .i64 (x : Int), .int .i64 (y : Int), .int .i64 z] 42) = w3 at *
      clear hw3
      generalize wr.heap.size = pb at *
      refine (HBO.out _).mono ?_
      rintro r w4 ⟨rfl, hb4⟩
      have HB4 := Lib.hid (HB.out.trans (hb4.mono HB.out.size))
      have HX4 := Lib.hid (HX.out.keep hb4)
      have HO4 := Lib.hid (own_keep3 HO.out hb4)
      clear hb4 HB HX HO HBO hc0 hc1 hc2 hbb
      clear wr
      go_wp2
      go_loopw [3, 19] (fun v i wr => ∃ (t : Nat) (G : Option Addr) (gc : Nat), t ≤ y ∧ i = .int .i64 (t : Int) ∧ v = .slice G (T + t) gc ∧ wr.ownsRow w.heap.size 3 1 (.slice G (T + t) gc) (T + t) (Pack.i64s ((K ++ (List.range t).map (x + ·)).map Int.ofNat)) ∧ Hb wr pb #[.int .i64 (x : Int), .int .i64 (y : Int), .int .i64 z] 42 ∧ Below w.heap.size w wr) (fun _ i _ => y - (intOf i).toNat)
      case atStart => exact ⟨0, G, gc, Nat.zero_le _, rfl, rfl, by simpa using HO4.out, HX4.out, HB4.out⟩
      case round =>
        obtain ⟨t, G, gc, ht, rfl, rfl, hrow, hx, hb⟩ := hrel
        clear HO4 HX4 HB4
        by_cases hty : t < y
        · have x0 := hx.cell 0
          have xl := hx.lt
          have bs := hb.size
          have HX := Lib.hid hx
          have HB := Lib.hid hb
          have HR := Lib.hid hrow
          have HO := Lib.hid (hrow.alloc (.cells #[.int .i64 ((x : Int) + (t : Int))] 3))
          clear hx hb hrow
          go_wp2_with (at_builtin
                       refine wpList_append_own_at _ rfl (.tmp 22) (.tmp 27) 33 rfl w.heap.size 3 i0 (.int .i64 0) 1 8 Tryz.underlying33 hi0 hz0 hz1 hz2 rfl (by decide) (.slice G (T + t) gc) (T + t) (Pack.i64s ((K ++ (List.range t).map (x + ·)).map Int.ofNat)) rfl HO.out ⟨wr.heap.size, 0, none⟩ 1 1 [.int .i64 ((x : Int) + (t : Int))] rfl rfl (cell_one_new _ _ _) (by simp [Value.oneCell']) (by unfold maxLen; omega) (by omega) (by simp; omega) ?_
                       intro v6 w6 hown6 hgr6 _ hat6
                       obtain ⟨G6, c6, rfl⟩ := Pack.row_slice hown6
                       have hal := (Below.refl wr.heap.size wr).alloc (Nat.le_refl _) (.cells #[.int .i64 ((x : Int) + (t : Int))] 3)
                       have HX6 := Lib.hid (hb_grown (HX.out.keep hal) hgr6 (hb_apart HX.out HR.out (by decide)))
                       have HB6 := Lib.hid ((HB.out.trans (hal.mono HB.out.size)).grown hgr6 (by simp; omega) (fun k hk => row_base_lt3 HR.out hk))
                       have HO6 := Lib.hid hown6
                       clear hown6 hgr6 hat6 hal)
          go_roundw
          case rel =>
            refine ⟨t + 1, G6, c6, by omega, by go_num, by rw [← Nat.add_assoc], ?_, HX6.out, HB6.out⟩
            have e : (K ++ (List.range (t + 1)).map (x + ·)).map Int.ofNat = (K ++ (List.range t).map (x + ·)).map Int.ofNat ++ [(x : Int) + (t : Int)] := by simp [List.range_succ]
            have h6 := HO6.out
            rw [e]
            unfold Pack.i64s at h6 ⊢
            rw [List.map_append, ← Nat.add_assoc]
            exact h6
          case measure => simp [intOf]; omega
        · obtain rfl : t = y := by omega
          have HX := Lib.hid hx
          have HB := Lib.hid hb
          have HR := Lib.hid hrow
          clear hx hb hrow
          go_wp2
          refine ⟨⟨m + 1, G, gc, by omega, by go_num, by rw [HT.out], ?_, HB.out⟩, by simp [intOf]; omega⟩
          rw [HT.out, HK.out]
          exact HR.out
    · obtain rfl : m = l.length := by omega
      rw [List.take_length] at hrow ⊢
      have hcap := row_cap3 hrow
      have htl := HTL.out
      go_wp2
      go_ret
      refine ⟨G, gc, rfl, Pack.own_nts hrow (fun x hx => ?_) (by omega), hb⟩
      obtain ⟨k, hk, rfl⟩ := List.mem_map.1 hx
      obtain ⟨p, hp, hk⟩ := List.mem_flatMap.1 hk
      obtain ⟨j, hj, rfl⟩ := List.mem_map.1 hk
      have := Slo.may_lt (HM.out p hp)
      have := List.mem_range.1 hj
      simp only [Int.ofNat_eq_natCast]
      omega
end Chn
end Go.Proofs.YtleehhpodgbomaaGreatDoor
/- Law 16's open; cantleref16.Same of what is the same; law 16's Lives. -/
namespace Go.Proofs.YtleehhpodgbomaaGreatDoor
open Go.RowKit Go.MapKept
namespace Chn
open Vol (Vo Up Kq Hb hb_new hb_grown hb_apart Ov Pl gn gs dv rawW rdev_any open_any rawW_len rawW_read Vo.put wds_block)

section
variable {sl bm bk E : Nat} {ws : List Nat}
set_option maxHeartbeats 4000000 in
set_option maxRecDepth 100000 in
theorem copen_any (w : World) (x y k : Nat) (hx : x < 256) (hy : y < 256) (hk : k < 256) (A : Option Addr) (c : Nat) (hws : Pack.Wds w A ws) (h : Pl (gn x) (gn y) (gs k) sl bm bk E) :
    Calls Tryz.prog 8 #[.agg #[.int .u8 (x : Int), .int .u8 (y : Int), .int .u8 (k : Int), .slice A ws.length c]] w fun r w' =>
      ∃ (Q : Nat → Prop) (vb a g gc : Nat), r = .returned (.tuple #[.pointer (some ⟨vb, 0, none⟩), .agg (dv (gn x) (gn y) (gs k) sl bm bk E (.slice (some ⟨g, 0, none⟩) E gc))]) ∧ Ov w w' Q vb a g gc (gn x) (gn y) (gs k) E (rawW (gn x) (gn y) (gs k) E ws) := by
  have HD := Lib.hid (fun w' (hb : Below w.heap.size w w') => rdev_any w' x y k hx hy hk A c (hws.keep hb) h)
  have HP := Lib.hid h
  obtain ⟨n, hn⟩ : ∃ n, n = gn x := ⟨_, rfl⟩
  obtain ⟨m, hm⟩ : ∃ m, m = gn y := ⟨_, rfl⟩
  obtain ⟨s, hs⟩ : ∃ s, s = gs k := ⟨_, rfl⟩
  rw [← hn, ← hm, ← hs] at HP HD ⊢
  clear hn hm hs h hws
  go_enter Tryz.func8, Tryz.ntmps8
  go_wp2_with fail
  have hb0 := (Below.refl w.heap.size w).alloc (Nat.le_refl _) (.cells #[.int .u8 (x : Int), .int .u8 (y : Int), .int .u8 (k : Int), .slice A ws.length c] 24)
  have hz0 := World.size_alloc w (.cells #[.int .u8 (x : Int), .int .u8 (y : Int), .int .u8 (k : Int), .slice A ws.length c] 24)
  generalize w.alloc (.cells #[.int .u8 (x : Int), .int .u8 (y : Int), .int .u8 (k : Int), .slice A ws.length c] 24) = w0 at *
  have hb1 := hb0.alloc hb0.size (.cells #[.int .i64 0, .int .i64 0, .int .i64 0, .int .i64 0, .int .i64 0, .int .i64 0, .int .i64 0, .int .i64 0, .slice none 0 0] 30)
  have hv1 := hb_new w0 #[.int .i64 0, .int .i64 0, .int .i64 0, .int .i64 0, .int .i64 0, .int .i64 0, .int .i64 0, .int .i64 0, .slice none 0 0] 30
  rw [hz0] at hv1
  have HB1 := Lib.hid hb1
  have HV1 := Lib.hid hv1
  clear hb0 hz0 hb1 hv1
  generalize w0.alloc (.cells #[.int .i64 0, .int .i64 0, .int .i64 0, .int .i64 0, .int .i64 0, .int .i64 0, .int .i64 0, .int .i64 0, .slice none 0 0] 30) = w1 at *
  clear w0
  refine (HD.out _ HB1.out).mono ?_
  rintro r w2 ⟨a, g, gc, B, rfl, h1, h2, h3, h4, hup, hwd, hb⟩
  have HN := Lib.hid (show w.heap.size + 1 < B ∧ (w.heap.size + 1 < g ∧ g < B) ∧ B ≤ w2.heap.size ∧ E ≤ gc from ⟨by have := HV1.out.lt; omega, ⟨by have := HV1.out.lt; omega, h2.2⟩, h3, h4⟩)
  have HU2 := Lib.hid hup
  have HD2 := Lib.hid hwd
  have HV2 := Lib.hid (HV1.out.keep hb)
  have HB2 := Lib.hid (HB1.out.trans (hb.mono HB1.out.size))
  clear h1 h2 h3 h4 hup hwd hb HV1 HB1 HD
  unfold dv
  have hb3 := (Below.refl w2.heap.size w2).alloc (Nat.le_refl _) (.cells #[.int .i64 (n : Int), .int .i64 (m : Int), .int .i64 (s : Int), .int .i64 16, .int .i64 (sl : Int), .int .i64 (bm : Int), .int .i64 (bk : Int), .int .i64 (E : Int), .slice (some ⟨g, 0, none⟩) E gc] 30)
  have HX3 := Lib.hid (hb_new w2 #[.int .i64 (n : Int), .int .i64 (m : Int), .int .i64 (s : Int), .int .i64 16, .int .i64 (sl : Int), .int .i64 (bm : Int), .int .i64 (bk : Int), .int .i64 (E : Int), .slice (some ⟨g, 0, none⟩) E gc] 30)
  have HU3 := Lib.hid (HU2.out.keep hb3)
  have HD3 := Lib.hid (HD2.out.keep hb3)
  have HV3 := Lib.hid (HV2.out.keep hb3)
  have HB3 := Lib.hid (HB2.out.trans (hb3.mono HB2.out.size))
  have hz3 := World.size_alloc w2 (.cells #[.int .i64 (n : Int), .int .i64 (m : Int), .int .i64 (s : Int), .int .i64 16, .int .i64 (sl : Int), .int .i64 (bm : Int), .int .i64 (bk : Int), .int .i64 (E : Int), .slice (some ⟨g, 0, none⟩) E gc] 30)
  have HS3 := Lib.hid hz3
  have HOP := Lib.hid (open_any HU3.out HP.out.may (by rw [rawW_len HP.out]; exact HP.out.e4.symm) (rawW_read HP.out))
  clear hb3 hz3 HU2 HD2 HV2 HB2
  go_wp2_with fail
  generalize w2.alloc (.cells #[.int .i64 (n : Int), .int .i64 (m : Int), .int .i64 (s : Int), .int .i64 16, .int .i64 (sl : Int), .int .i64 (bm : Int), .int .i64 (bk : Int), .int .i64 (E : Int), .slice (some ⟨g, 0, none⟩) E gc] 30) = w3 at *
  refine HOP.out.mono ?_
  rintro r w4 ⟨vb, rfl, hvb, hvo, hb⟩
  have HV4 := Lib.hid (hvo.sub (Q' := fun k => k < B ∨ k = vb) (fun k hk => by
    rcases hk with hk | rfl
    · exact .inl hk
    · exact .inr ⟨hvb, hvo.lt⟩) (.inr rfl))
  have HX4 := Lib.hid (HX3.out.keep hb)
  have HD4 := Lib.hid (HD3.out.keep hb)
  have HR4 := Lib.hid (HV3.out.keep hb)
  have HB4 := Lib.hid (HB3.out.trans (hb.mono HB3.out.size))
  have HVB := Lib.hid (show w2.heap.size + 1 ≤ vb by have := HS3.out; omega)
  clear hvb hvo hb HOP HX3 HD3 HV3 HB3 HU3 HS3
  have c0 := HX4.out.cell 0
  have c1 := HX4.out.cell 1
  have c2 := HX4.out.cell 2
  have c3 := HX4.out.cell 3
  have c4 := HX4.out.cell 4
  have c5 := HX4.out.cell 5
  have c6 := HX4.out.cell 6
  have c7 := HX4.out.cell 7
  have c8 := HX4.out.cell 8
  have d0 := HR4.out.cell 0
  have d1 := HR4.out.cell 1
  have d2 := HR4.out.cell 2
  have d3 := HR4.out.cell 3
  have d4 := HR4.out.cell 4
  have d5 := HR4.out.cell 5
  have d6 := HR4.out.cell 6
  have d7 := HR4.out.cell 7
  have d8 := HR4.out.cell 8
  have f0 := HR4.out.frozen 0
  have f1 := HR4.out.frozen 1
  have f2 := HR4.out.frozen 2
  have f3 := HR4.out.frozen 3
  have f4 := HR4.out.frozen 4
  have f5 := HR4.out.frozen 5
  have f6 := HR4.out.frozen 6
  have f7 := HR4.out.frozen 7
  have f8 := HR4.out.frozen 8
  have hxl := HX4.out.lt
  have hrl := HR4.out.lt
  have hN := HN.out
  have hVB := HVB.out
  have hne1 : ¬ w2.heap.size = w.heap.size + 1 := by omega
  have hne2 : ¬ w.heap.size + 1 = w2.heap.size := by omega
  go_wp2_with fail
  go_region
  go_wp2
  have hd : ∀ V : World, Below V.heap.size V V.drew := fun V => ⟨rfl, rfl, rfl, Nat.le_refl _, fun _ _ => rfl⟩
  refine bodyPost_ret (v := .tuple #[.pointer (some ⟨vb, 0, none⟩), .agg #[.int .i64 (n : Int), .int .i64 (m : Int), .int .i64 (s : Int), .int .i64 16, .int .i64 (sl : Int), .int .i64 (bm : Int), .int .i64 (bk : Int), .int .i64 (E : Int), .slice (some ⟨g, 0, none⟩) E gc]]) ?_ rfl ⟨fun k => k < B ∨ k = vb, vb, a, g, gc, rfl, ⟨?_, .inl hN.2.1.2, fun k hk => .inl (by omega), ?_, hN.2.2.2, ?_, rawW_len HP.out⟩⟩
  · simp [results, Tryz.results8, go_sem, d0, d1, d2, d3, d4, d5, d6, d7, d8]
  · refine Vo.keep ?_ (hd _)
    iterate 9 refine Vo.put ?_ (.inl hN.1) (by show vb ≠ w.heap.size + 1; omega) _
    exact HV4.out
  · refine Pack.Wds.keep ?_ (hd _)
    iterate 9 refine wds_block ?_ (Below.heap_setCell _ _ _ _ (by show g ≠ w.heap.size + 1; omega))
    exact HD4.out
  · refine Below.trans ?_ ((hd _).mono (by simp only [World.setCell, Array.size_modify]; exact HB4.out.size))
    iterate 9 refine Below.setCell ?_ (Nat.le_succ _) _
    exact HB4.out
end
end Chn
end Go.Proofs.YtleehhpodgbomaaGreatDoor
/- cantleref16.Same of what is the same; law 16's Lives. -/
namespace Go.Proofs.YtleehhpodgbomaaGreatDoor
open Go.RowKit Go.MapKept
namespace Chn
open Vol (Vo Up Kq Hb hb_new hb_grown hb_apart Ov Pl gn gs dv rawW rawW_len)

set_option maxHeartbeats 1000000 in
set_option maxRecDepth 100000 in
theorem rsame_yes (w : World) (A B : Option Addr) (c d : Nat) (l : List Int) (h : Pack.Nts w A l) (k : Pack.Nts w B l) :
    Calls Tryz.prog 10 #[.slice A l.length c, .slice B l.length d] w fun r w' => r = .returned (.bool true) ∧ Below w.heap.size w w' := by
  have H := Lib.hid h
  have K := Lib.hid k
  have hl := h.len
  clear h k
  go_enter Tryz.func10, Tryz.ntmps10
  go_wp2
  go_loopw [13] (fun i wr => ∃ m : Nat, m ≤ l.length ∧ i = .int .i64 (m : Int) ∧ Below w.heap.size w wr) (fun i _ => l.length - (intOf i).toNat)
  case atStart => exact ⟨0, Nat.zero_le _, rfl, Below.refl _ _⟩
  case round =>
    obtain ⟨m, hm, rfl, hb⟩ := hrel
    by_cases hlt : m < l.length
    · obtain ⟨b, o, rfl, hbb, hc0⟩ := H.out.at' m hlt
      obtain ⟨b2, o2, rfl, hbb2, hd0⟩ := K.out.at' m hlt
      have hc0 := (hb.cell (p := ⟨b, o + m, none⟩) hbb).trans hc0
      have hd0 := (hb.cell (p := ⟨b2, o2 + m, none⟩) hbb2).trans hd0
      have hbb := Nat.lt_of_lt_of_le hbb hb.size
      have hbb2 := Nat.lt_of_lt_of_le hbb2 hb.size
      have HB := Lib.hid (hb.drew)
      have hmi : (m : Int) < (l.length : Int) := by omega
      clear hb
      go_wp2
      go_region
      go_wp2
      exact ⟨⟨m + 1, by omega, by go_num, HB.out⟩, by simp [intOf]; omega⟩
    · obtain rfl : m = l.length := by omega
      go_wp2
      go_ret
      exact ⟨rfl, hb⟩

theorem nts_two (w : World) (x y : Int) (hx : -9223372036854775808 ≤ x ∧ x ≤ 9223372036854775807) (hy : -9223372036854775808 ≤ y ∧ y ≤ 9223372036854775807) : Pack.Nts (w.alloc (.cells #[.int .i64 x, .int .i64 y] 3)) (some ⟨w.heap.size, 0, none⟩) [x, y] :=
  ⟨fun n h => by
    rcases List.mem_cons.1 h with rfl | h
    · exact hx
    · obtain rfl : n = y := by simpa using h
      exact hy, by simp, fun j hj => ⟨_, _, rfl, by simp, by
    match j, hj with
    | 0, _ => exact Pack.alloc_cell w _ _ 0
    | 1, _ => exact Pack.alloc_cell w _ _ 1⟩⟩
theorem nts_three (w : World) (x y z : Int) (hx : -9223372036854775808 ≤ x ∧ x ≤ 9223372036854775807) (hy : -9223372036854775808 ≤ y ∧ y ≤ 9223372036854775807) (hz : -9223372036854775808 ≤ z ∧ z ≤ 9223372036854775807) : Pack.Nts (w.alloc (.cells #[.int .i64 x, .int .i64 y, .int .i64 z] 3)) (some ⟨w.heap.size, 0, none⟩) [x, y, z] :=
  ⟨fun n h => by
    simp only [List.mem_cons, List.not_mem_nil, or_false] at h
    rcases h with rfl | rfl | rfl
    · exact hx
    · exact hy
    · exact hz, by simp, fun j hj => ⟨_, _, rfl, by simp, by
    match j, hj with
    | 0, _ => exact Pack.alloc_cell w _ _ 0
    | 1, _ => exact Pack.alloc_cell w _ _ 1
    | 2, _ => exact Pack.alloc_cell w _ _ 2⟩⟩
theorem prs_two (w : World) (x y z u : Int) (hx : -9223372036854775808 ≤ x ∧ x ≤ 9223372036854775807) (hy : -9223372036854775808 ≤ y ∧ y ≤ 9223372036854775807) (hz : -9223372036854775808 ≤ z ∧ z ≤ 9223372036854775807) (hu : -9223372036854775808 ≤ u ∧ u ≤ 9223372036854775807) : Prs (w.alloc (.cells #[.int .i64 x, .int .i64 y, .int .i64 z, .int .i64 u] 59)) (some ⟨w.heap.size, 0, none⟩) [(x, y), (z, u)] :=
  ⟨fun r h => by
    rcases List.mem_cons.1 h with rfl | h
    · exact ⟨hx, hy⟩
    · obtain rfl : r = (z, u) := by simpa using h
      exact ⟨hz, hu⟩, by simp, fun j hj => ⟨w.heap.size, 0, rfl, by simp, by
    match j, hj with
    | 0, _ => exact Pack.alloc_cell w _ _ 0
    | 1, _ => exact Pack.alloc_cell w _ _ 2, by
    match j, hj with
    | 0, _ => exact Pack.alloc_cell w _ _ 1
    | 1, _ => exact Pack.alloc_cell w _ _ 3⟩⟩
theorem wr_ex : Wr (gn 9) [2, 0] [(5, 2), (1, 1)] := ⟨by decide, rfl, by decide, by decide, by decide⟩
theorem mays_pts {n : Nat} {S : List Nat} {R : List (Nat × Nat)} (h : Wr n S R) : Mays (pts S R) := by
  intro p hp
  obtain ⟨k, hk, rfl⟩ := List.mem_map.1 hp
  exact (pk_may h (by simpa using hk)).2.2
theorem pts_ex : Mays (pts [2, 0] [(5, 2), (1, 1)]) := mays_pts wr_ex

set_option maxHeartbeats 4000000 in
set_option maxRecDepth 100000 in
theorem lives_any (w : World) (hT : Bm.Tab w) : Calls Tryz.prog 7 #[] w fun r w' => r = .returned (.bool true) ∧ Below w.heap.size w w' := by
  have HT := Lib.hid hT
  obtain ⟨sl, bm, bk, E, hpl⟩ := Vol.pl_any 9 1 0
  have HO := Lib.hid (copen_any w 9 1 0 (by omega) (by omega) (by omega) none 0 (ws := []) (Pack.wds_nil w none) hpl)
  have HL11 := Lib.hid (fun w' (hb : Below w.heap.size w w') => Rn.lives_any w' (hT.below hb hT.lt))
  have HL15 := Lib.hid (fun w' (hb : Below w.heap.size w w') => Vol.lives_any w' (hT.below hb hT.lt))
  clear hT
  go_enter Tryz.func7, Tryz.ntmps7
  go_wp2_with fail
  refine HO.out.mono ?_
  rintro e w1 ⟨Q, vb, a, g, gc, rfl, hov⟩
  have hb2 := (Below.refl w1.heap.size w1).alloc (Nat.le_refl _) (.cells (dv (gn 9) (gn 1) (gs 0) sl bm bk E (.slice (some ⟨g, 0, none⟩) E gc)) 30)
  have HV2 := Lib.hid (hov.vo.grow hb2)
  have HQ := Lib.hid (show ∀ k, k < w.heap.size → Q k from hov.ql)
  have HB2 := Lib.hid (hov.below.trans (hb2.mono hov.below.size))
  clear hb2 hov HO
  unfold dv at HV2 HB2 ⊢
  go_wp2_with fail
  obtain ⟨Q2, hQ2⟩ : ∃ Q2 : Nat → Prop, Q2 = fun k => Q k ∨ (w1.heap.size ≤ k ∧ k < (w1.alloc (.cells #[.int .i64 (gn 9 : Nat), .int .i64 (gn 1 : Nat), .int .i64 (gs 0 : Nat), .int .i64 16, .int .i64 (sl : Int), .int .i64 (bm : Int), .int .i64 (bk : Int), .int .i64 (E : Int), .slice (some ⟨g, 0, none⟩) E gc] 30)).heap.size) := ⟨_, rfl⟩
  rw [← hQ2] at HV2
  have HQ2 := Lib.hid (show ∀ k, k < w.heap.size → Q2 k by rw [hQ2]; exact fun k hk => .inl (HQ.out k hk))
  clear hQ2 HQ
  generalize w1.alloc (.cells #[.int .i64 (gn 9 : Nat), .int .i64 (gn 1 : Nat), .int .i64 (gs 0 : Nat), .int .i64 16, .int .i64 (sl : Int), .int .i64 (bm : Int), .int .i64 (bk : Int), .int .i64 (E : Int), .slice (some ⟨g, 0, none⟩) E gc] 30) = w2 at *
  refine (HL11.out _ HB2.out).mono ?_
  rintro e w3 ⟨rfl, hb⟩
  have HV3 := Lib.hid (HV2.out.keep hb)
  have HB3 := Lib.hid (HB2.out.trans (hb.mono HB2.out.size))
  clear hb HV2 HB2 HL11
  go_wp2_with fail
  refine (HL15.out _ HB3.out).mono ?_
  rintro e w4 ⟨rfl, hb⟩
  have HV4 := Lib.hid (HV3.out.keep hb)
  have HB4 := Lib.hid (HB3.out.trans (hb.mono HB3.out.size))
  clear hb HV3 HB3 HL15
  go_wp2_with fail
  have hb6 := ((Below.refl w4.heap.size w4).alloc (Nat.le_refl _) (.cells #[.int .i64 2, .int .i64 0] 3)).alloc (by simp) (.cells #[.int .i64 5, .int .i64 2, .int .i64 1, .int .i64 1] 59)
  have hns := (nts_two w4 2 0 (by omega) (by omega)).keep ((Below.refl (w4.alloc (.cells #[.int .i64 2, .int .i64 0] 3)).heap.size (w4.alloc (.cells #[.int .i64 2, .int .i64 0] 3))).alloc (Nat.le_refl _) (.cells #[.int .i64 5, .int .i64 2, .int .i64 1, .int .i64 1] 59))
  have hps := prs_two (w4.alloc (.cells #[.int .i64 2, .int .i64 0] 3)) 5 2 1 1 (by omega) (by omega) (by omega) (by omega)
  rw [World.size_alloc] at hps
  have HV6 := Lib.hid (HV4.out.grow hb6)
  have HB6 := Lib.hid (HB4.out.trans (hb6.mono HB4.out.size))
  have hz6 : ((w4.alloc (.cells #[.int .i64 2, .int .i64 0] 3)).alloc (.cells #[.int .i64 5, .int .i64 2, .int .i64 1, .int .i64 1] 59)).heap.size = w4.heap.size + 2 := by simp
  have HW := Lib.hid (write_yes HV6.out (some ⟨w4.heap.size, 0, none⟩) (some ⟨w4.heap.size + 1, 0, none⟩) 2 2 [2, 0] [(5, 2), (1, 1)] hns hps wr_ex (fun x hx _ => by cases hx; exact .inr ⟨Nat.le_refl _, by rw [hz6]; show w4.heap.size < w4.heap.size + 2; omega⟩) (fun x hx _ => by cases hx; exact .inr ⟨Nat.le_succ _, by rw [hz6]; show w4.heap.size + 1 < _; omega⟩) (by simp))
  clear hb6 hns hps hz6 HV4 HB4
  simp only [List.length_cons, List.length_nil, Nat.zero_add, Nat.reduceAdd] at HW
  refine HW.out.mono ?_
  rintro e w7 ⟨rfl, hv7, hk7⟩
  have HB7 := Lib.hid (HB6.out.trans (hk7.below HB6.out.size (fun k hk => .inl (HQ2.out k hk))))
  have hrd := read_any hv7 2
  have hlen := rawW_len (ws := []) hpl
  have hat := hpl.at
  have hrr := wk_read (W := rawW (gn 9) (gn 1) (gs 0) E []) (b := 16 + gn 1 * 8) wr_ex (by rw [hlen]; omega)
  rw [show hd [2, 0] 0 = 2 from rfl] at hrr
  simp only [List.length_cons, List.length_nil, Nat.zero_add, Nat.reduceAdd] at hrr
  unfold RdTo at hrd
  rw [hrr] at hrd
  simp only at hrd
  have HRD := Lib.hid hrd
  clear hrd hrr hat hlen hv7 hk7 HW HV6 HB6
  go_wp2_with fail
  refine HRD.out.mono ?_
  rintro e w8 ⟨A8, c8, B8, d8, rfl, hn8, hp8, hc8, hd8, hb8⟩
  have HB8 := Lib.hid (HB7.out.trans (hb8.mono HB7.out.size))
  have HBK := Lib.hid (fun w' (hb : Below w8.heap.size w8 w') => blocks_any w' A8 B8 (pts [2, 0] [(5, 2), (1, 1)]).length c8 d8 (pts [2, 0] [(5, 2), (1, 1)]) (hp8.keep hb) pts_ex (by decide))
  clear hn8 hp8 hc8 hd8 hb8 HRD HB7
  rw [show tot (pts [2, 0] [(5, 2), (1, 1)]) = 3 from rfl, show blk (pts [2, 0] [(5, 2), (1, 1)]) = [5, 6, 1] from rfl, show (pts [2, 0] [(5, 2), (1, 1)]).length = 2 from rfl] at HBK
  rw [show (pts [2, 0] [(5, 2), (1, 1)]).length = 2 from rfl]
  go_wp2_with fail
  have hb9 := (Below.refl w8.heap.size w8).alloc (Nat.le_refl _) (.cells #[.slice A8 2 c8, .slice B8 2 d8] 36)
  refine (HBK.out _ hb9).mono ?_
  rintro e w10 ⟨G, gc, rfl, hnt, hb10⟩
  have HB10 := Lib.hid ((HB8.out.trans (hb9.mono HB8.out.size)).trans (hb10.mono (Nat.le_trans HB8.out.size hb9.size)))
  have hal := (Below.refl w10.heap.size w10).alloc (Nat.le_refl _) (.cells #[.int .i64 5, .int .i64 6, .int .i64 1] 3)
  have HSM := Lib.hid (rsame_yes _ G (some ⟨w10.heap.size, 0, none⟩) gc 3 [5, 6, 1] (hnt.keep hal) (nts_three w10 5 6 1 (by omega) (by omega) (by omega)))
  have HB11 := Lib.hid (HB10.out.trans (hal.mono HB10.out.size))
  simp only [List.length_cons, List.length_nil, Nat.zero_add, Nat.reduceAdd] at HSM
  clear hb9 hnt hb10 hal HBK HB8 HB10
  go_wp2_with fail
  refine HSM.out.mono ?_
  rintro e w12 ⟨rfl, hb⟩
  have HB12 := Lib.hid (HB11.out.trans (hb.mono HB11.out.size))
  clear hb
  go_wp2
  go_ret
  exact ⟨rfl, HB12.out⟩
end Chn
end Go.Proofs.YtleehhpodgbomaaGreatDoor
/- ChainTails, walked. -/
namespace Go.Proofs.YtleehhpodgbomaaGreatDoor
open Go.RowKit Go.MapKept
namespace Chn
open Vol (Vo Up Kq Hb hb_new hb_grown hb_apart Ov Pl gn gs dv rawW rawW_len)

theorem und_ints : Tryz.prog.underlying 33 = some (.slice (Tryz.prog.elem 33)) := by kernel_rfl
theorem size_int (W : World) : (sizeOf (Tryz.prog.elem 33)).run Tryz.prog W = .ok 1 W := by kernel_rfl
/-- the rest of ints -/
theorem nts_from (A : Option Addr) (n c q : Nat) (hq : q ≤ n) (hn : n ≤ c) : ∃ B : Option Addr, (∀ W, (Instr.slice 33 (.slice A n c) (some (.int .i64 (q : Int))) none none).run Tryz.prog W = .ok (.slice B (n - q) (c - q)) W) ∧ ∀ W (l : List Int), l.length = n → Pack.Nts W A l → Pack.Nts W B (l.drop q) := by
  refine ⟨if c = q then A else A.map (·.add (q * 1)), fun W => ?_, fun W l hl hb => ?_⟩
  · rw [run_slice_l _ _ _ _ _ und_ints .i64 (q : Int) (by omega) (by omega), size_int]
    rfl
  · refine ⟨fun x hx => hb.i64 x (List.mem_of_mem_drop hx), by rw [List.length_drop]; have := hb.len; omega, fun j hj => ?_⟩
    rw [List.length_drop] at hj
    obtain ⟨b, o, rfl, h1, h2⟩ := hb.at' (q + j) (by omega)
    refine ⟨b, o + q, ?_, h1, ?_⟩
    · rw [if_neg (by omega), Option.map_some, Go.WideShapes.add_plain, Nat.mul_one]
    · rw [List.getElem_drop, Nat.add_assoc]
      exact h2
section
variable {ws : List Nat}
set_option maxHeartbeats 4000000 in
set_option maxRecDepth 100000 in
theorem tails_law (w : World) (hT : Bm.Tab w) (x y k : Nat) (hx : x < 256) (hy : y < 256) (hk : k < 256) (A : Option Addr) (c : Nat) (hws : Pack.Wds w A ws) (h : Nat) (hh : h < 256) :
    Calls Tryz.prog 3 #[.agg #[.int .u8 (x : Int), .int .u8 (y : Int), .int .u8 (k : Int), .slice A ws.length c], .int .u8 (h : Int)] w fun r w' => r = .returned (.bool true) ∧ Below w.heap.size w w' := by
  obtain ⟨sl, bm, bk, E, hpl⟩ := Vol.pl_any x y k
  have HL := Lib.hid (fun w' (hb : Below w.heap.size w w') => lives_any w' (hT.below hb hT.lt))
  have HO := Lib.hid (fun w' (hb : Below w.heap.size w w') => copen_any w' x y k hx hy hk A c (hws.keep hb) hpl)
  have hn20 := hpl.n20
  obtain ⟨n, hn⟩ : ∃ n, n = gn x := ⟨_, rfl⟩
  obtain ⟨m, hm⟩ : ∃ m, m = gn y := ⟨_, rfl⟩
  obtain ⟨s, hs⟩ : ∃ s, s = gs k := ⟨_, rfl⟩
  rw [← hn, ← hm, ← hs] at HO
  rw [← hn] at hn20
  clear hn hm hs hpl hT hws
  go_enter Tryz.func3, Tryz.ntmps3
  have HB0 := Lib.hid ((Below.refl w.heap.size w).alloc (Nat.le_refl _) (.cells #[.int .u8 (x : Int), .int .u8 (y : Int), .int .u8 (k : Int), .slice A ws.length c] 24))
  have HR0 := Lib.hid (hb_new w #[.int .u8 (x : Int), .int .u8 (y : Int), .int .u8 (k : Int), .slice A ws.length c] 24)
  go_wp2_with fail
  generalize w.alloc (.cells #[.int .u8 (x : Int), .int .u8 (y : Int), .int .u8 (k : Int), .slice A ws.length c] 24) = w0 at *
  refine (HL.out _ HB0.out).mono ?_
  rintro e w1 ⟨rfl, hb⟩
  have HB1 := Lib.hid (HB0.out.trans (hb.mono HB0.out.size))
  have HR1 := HR0.out.keep hb
  clear hb HL HB0 HR0
  have r0 := HR1.cell 0
  have r1 := HR1.cell 1
  have r2 := HR1.cell 2
  have r3 := HR1.cell 3
  have rl := HR1.lt
  clear HR1
  go_wp2_with fail
  refine (HO.out _ HB1.out).mono ?_
  rintro e w3 ⟨Q, vb, a, g, gc, rfl, hov⟩
  clear r0 r1 r2 r3 rl
  have hb4 := (Below.refl w3.heap.size w3).alloc (Nat.le_refl _) (.cells (dv n m s sl bm bk E (.slice (some ⟨g, 0, none⟩) E gc)) 30)
  have HV4 := Lib.hid (hov.vo.keep hb4)
  have HB4 := Lib.hid ((HB1.out.trans (hov.below.mono HB1.out.size)).trans (hb4.mono (Nat.le_trans HB1.out.size hov.below.size)))
  have HX4 := Lib.hid (hb_new w3 (dv n m s sl bm bk E (.slice (some ⟨g, 0, none⟩) E gc)) 30)
  clear hov hb4 HO HB1
  unfold dv at HV4 HB4 HX4 ⊢
  obtain ⟨j, hj⟩ : ∃ j, j = h % n := ⟨_, rfl⟩
  have hji : (h : Int) % (n : Int) = (j : Int) := by omega
  have hn0 : ((n : Int) == 0) = false := beq_eq_false_iff_ne.2 (by omega)
  have hjn : j < n := by rw [hj]; exact Nat.mod_lt _ (by omega)
  clear hj
  go_wp2_with fail
  generalize w3.alloc (.cells #[.int .i64 (n : Int), .int .i64 (m : Int), .int .i64 (s : Int), .int .i64 16, .int .i64 (sl : Int), .int .i64 (bm : Int), .int .i64 (bk : Int), .int .i64 (E : Int), .slice (some ⟨g, 0, none⟩) E gc] 30) = w4 at *
  generalize w3.heap.size = b3 at *
  clear w3
  have hrd := fun w' (hb : Below w4.heap.size w4 w') (q : Int) => read_any (HV4.out.keep hb) q
  obtain ⟨f, hf⟩ : ∃ f, f = fw (rawW n m s E ws) (16 + m * 8) := ⟨_, rfl⟩
  simp only [← hf] at hrd
  have HF := Lib.hid hf
  have HRD := Lib.hid hrd
  have h1 := hrd w4 (Below.refl _ _) (j : Int)
  clear hf hrd
  unfold RdTo at h1
  cases hr : rd (pat f n) n (j : Int) with
  | none =>
    rw [hr] at h1
    have H1 := Lib.hid h1
    clear h1 hr
    refine H1.out.mono ?_
    rintro e w5 ⟨rfl, hb⟩
    have HB5 := Lib.hid ((HB4.out.trans (hb.mono HB4.out.size)).alloc (Nat.le_trans HB4.out.size hb.size) (.cells #[.slice none 0 0, .slice none 0 0] 36))
    clear hb H1
    go_wp2
    go_ret
    exact ⟨rfl, HB5.out⟩
  | some l =>
    rw [hr] at h1
    have H1 := Lib.hid h1
    have HR := Lib.hid hr
    clear h1 hr
    refine H1.out.mono ?_
    rintro e w5 ⟨A5, c5, B5, d5, rfl, hn5, hp5, hc5, hd5, hb⟩
    have hba := hb.alloc hb.size (.cells #[.slice A5 l.length c5, .slice B5 l.length d5] 36)
    have hal := (Below.refl w5.heap.size w5).alloc (Nat.le_refl _) (.cells #[.slice A5 l.length c5, .slice B5 l.length d5] 36)
    have HN := Lib.hid (hn5.keep hal)
    have HP := Lib.hid (hp5.keep hal)
    have HX := Lib.hid (hb_new w5 #[.slice A5 l.length c5, .slice B5 l.length d5] 36)
    have HB5 := Lib.hid hba
    clear hn5 hp5 hba hal hb H1
    go_wp2_with fail
    generalize hw6 : w5.alloc (.cells #[.slice A5 l.length c5, .slice B5 l.length d5] 36) = w6 at *
    clear hw6
    generalize w5.heap.size = bc at *
    clear w5
    have hl20 : l.length ≤ 20 := by have := (rd_iff.1 HR.out).2; omega
    go_loopw [41] (fun i wr => ∃ q : Nat, q ≤ l.length ∧ i = .int .i64 (q : Int) ∧ Below w6.heap.size w6 wr) (fun i _ => l.length - (intOf i).toNat)
    case atStart => exact ⟨0, Nat.zero_le _, rfl, Below.refl _ _⟩
    case round =>
      obtain ⟨i, hi, rfl, hb⟩ := hrel
      by_cases hlt : i < l.length
      · have hb4 := HB5.out.trans (hb.mono HB5.out.size)
        have hri : rd (pat f n) n ((l[i].s : Nat) : Int) = some (l.drop i) := rd_yes (path_at (rd_iff.1 HR.out).1 hlt).2
        have h1 := HRD.out wr hb4 ((l[i].s : Nat) : Int)
        unfold RdTo at h1
        rw [hri] at h1
        simp only at h1
        have H1 := Lib.hid h1
        clear h1 hri
        obtain ⟨B6, hs1, hs2⟩ := nts_from A5 l.length c5 i hi hc5
        have hnn := HN.out.keep hb
        have HS2 := Lib.hid (hs2 wr (slots l) (slots_len l) hnn)
        obtain ⟨ba, oa, hA, hba, hac⟩ := hnn.at' i (by rw [slots_len]; exact hlt)
        obtain ⟨bp, op, hB, hbp, hp0, hp1, hp2⟩ := (HP.out.keep hb).at' i hlt
        subst hA hB
        have e0 : (slots l)[i]'(by rw [slots_len]; exact hlt) = (l[i].s : Int) := by simp [slots]
        rw [e0] at hac
        obtain ⟨t, ht⟩ : ∃ t, t = (l.drop i).length := ⟨_, rfl⟩
        have htl := ht
        rw [List.length_drop] at htl
        have HD0 := Lib.hid (show ∃ h : 0 < (l.drop i).length, (l.drop i)[0] = l[i] from ⟨by simp; omega, by simp⟩)
        have HSD := Lib.hid (show (slots l).drop i = slots (l.drop i) by simp [slots])
        generalize l.drop i = dl at *
        rw [← ht] at H1
        have HT := Lib.hid ht
        rw [← htl] at hs1
        have hsub : IntKind.i64.wrap ((l.length : Int) - (i : Int)) = (t : Int) := IntWalk.i64_in _ (by omega) |>.trans (by omega)
        have ht0 : (0 : Int) < (t : Int) := by omega
        have ht1 : 0 < t := by omega
        have ht2 : decide ((0 : Int) < (t : Int)) = true := decide_eq_true ht0
        have ht3 : decide (0 < t) = true := decide_eq_true ht1
        have HTL := Lib.hid htl
        clear htl
        have x0 := (HX.out.keep hb).cell 0
        have x1 := (HX.out.keep hb).cell 1
        have xl := (HX.out.keep hb).lt
        clear e0 ht hnn hb4 hs2
        generalize l[i] = p at *
        have HBW := Lib.hid hb
        clear hb
        have hil : (i : Int) < (l.length : Int) := by omega
        go_wp2_with fail
        refine H1.out.mono ?_
        rintro e w7 ⟨A8, c8, B8, d8, rfl, hn8, hp8, hc8, hd8, hb7⟩
        obtain ⟨hd0l, hd0⟩ := HD0.out
        obtain ⟨b8, o8, hB8, hb8, hq0, hq1, hq2⟩ := hp8.at' 0 hd0l
        subst hB8
        rw [hd0] at hq0 hq1 hq2
        simp only [Nat.zero_mul, Nat.add_zero] at hq0 hq1 hq2
        have hal := (Below.refl w7.heap.size w7).alloc (Nat.le_refl _) (.cells #[.slice A8 t c8, .slice (some ⟨b8, o8, none⟩) t d8] 36)
        have hb8w := hb7.trans (hal.mono hb7.size)
        have hdx := hb_new w7 #[.slice A8 t c8, .slice (some ⟨b8, o8, none⟩) t d8] 36
        have k0 := (hb8w.cell (p := ⟨bc, 0, none⟩) xl).trans x0
        have k1 := (hb8w.cell (p := ⟨bc, 1, none⟩) xl).trans x1
        have p0 := (hb8w.cell (p := ⟨bp, op + i * 3, none⟩) hbp).trans hp0
        have p1 := (hb8w.cell (p := ⟨bp, op + i * 3 + 1, none⟩) hbp).trans hp1
        have p2 := (hb8w.cell (p := ⟨bp, op + i * 3 + 2, none⟩) hbp).trans hp2
        have q0 := (hal.cell (p := ⟨b8, o8, none⟩) hb8).trans hq0
        have q1 := (hal.cell (p := ⟨b8, o8 + 1, none⟩) hb8).trans hq1
        have q2 := (hal.cell (p := ⟨b8, o8 + 2, none⟩) hb8).trans hq2
        have hbc8 := Nat.lt_of_lt_of_le xl hb8w.size
        have hbp8 := Nat.lt_of_lt_of_le hbp hb8w.size
        have hb88 := Nat.lt_of_lt_of_le hb8 hal.size
        have hsm := rsame_yes (w7.alloc (.cells #[.slice A8 t c8, .slice (some ⟨b8, o8, none⟩) t d8] 36)).drew A8 B6 c8 (c5 - i) (slots dl) ((hn8.keep hal).keep (bel_drew _)) ((by rw [← HSD.out]; exact HS2.out.keep hb8w : Pack.Nts (w7.alloc (.cells #[.slice A8 t c8, .slice (some ⟨b8, o8, none⟩) t d8] 36)) B6 (slots dl)).keep (bel_drew _))
        rw [slots_len, ← HT.out] at hsm
        have HSM := Lib.hid hsm
        have HBW8 := Lib.hid (HBW.out.trans (hb8w.mono HBW.out.size))
        have HDX := Lib.hid hdx
        clear hsm hal hb8w hdx hn8 hp8 hb7 x0 x1 xl hp0 hp1 hp2 hq0 hq1 hq2 hba hac hbp hb8 H1
        go_wp2_with fail
        generalize w7.alloc (.cells #[.slice A8 t c8, .slice (some ⟨b8, o8, none⟩) t d8] 36) = w8 at *
        generalize w7.heap.size = bd at *
        clear w7
        obtain ⟨z, hz⟩ : ∃ z, z = Slo.nx p.q := ⟨_, rfl⟩
        rw [← hz] at p2 q2
        clear hz
        have dd0 := HDX.out.cell 0
        have dd1 := HDX.out.cell 1
        have dl0 := HDX.out.lt
        go_region_held3 (fun W' => (W'.cell? ⟨bc, 0, none⟩ = some (.slice (some ⟨ba, oa, none⟩) l.length c5) ∧ W'.cell? ⟨bc, 1, none⟩ = some (.slice (some ⟨bp, op, none⟩) l.length d5)) ∧ (W'.cell? ⟨bd, 0, none⟩ = some (.slice A8 t c8) ∧ W'.cell? ⟨bd, 1, none⟩ = some (.slice (some ⟨b8, o8, none⟩) t d8)) ∧ (W'.cell? ⟨bp, op + i * 3, none⟩ = some (.int .i64 (p.x : Int)) ∧ W'.cell? ⟨bp, op + i * 3 + 1, none⟩ = some (.int .i64 (p.c : Int)) ∧ W'.cell? ⟨bp, op + i * 3 + 2, none⟩ = some (.int .i64 z)) ∧ (W'.cell? ⟨b8, o8, none⟩ = some (.int .i64 (p.x : Int)) ∧ W'.cell? ⟨b8, o8 + 1, none⟩ = some (.int .i64 (p.c : Int)) ∧ W'.cell? ⟨b8, o8 + 2, none⟩ = some (.int .i64 z))) (go_keep)
          (first
          | (go_at_call 10
             with_reducible refine HSM.out.mono ?_
             rintro r w9 ⟨rfl, hb9⟩
             have HBW9 := Lib.hid (HBW8.out.trans ((bel_drew w8).trans (hb9.mono (Nat.le_trans HBW8.out.size (Nat.le_refl w8.heap.size)))))
             have k09 := (hb9.cell (p := ⟨bc, 0, none⟩) hbc8).trans k0
             have k19 := (hb9.cell (p := ⟨bc, 1, none⟩) hbc8).trans k1
             have d09 := (hb9.cell (p := ⟨bd, 0, none⟩) dl0).trans dd0
             have d19 := (hb9.cell (p := ⟨bd, 1, none⟩) dl0).trans dd1
             have p09 := (hb9.cell (p := ⟨bp, op + i * 3, none⟩) hbp8).trans p0
             have p19 := (hb9.cell (p := ⟨bp, op + i * 3 + 1, none⟩) hbp8).trans p1
             have p29 := (hb9.cell (p := ⟨bp, op + i * 3 + 2, none⟩) hbp8).trans p2
             have q09 := (hb9.cell (p := ⟨b8, o8, none⟩) hb88).trans q0
             have q19 := (hb9.cell (p := ⟨b8, o8 + 1, none⟩) hb88).trans q1
             have q29 := (hb9.cell (p := ⟨b8, o8 + 2, none⟩) hb88).trans q2
             have bb1 := Nat.lt_of_lt_of_le hbp8 hb9.size
             have bb2 := Nat.lt_of_lt_of_le hb88 hb9.size
             clear hb9))
        go_wp2
        exact ⟨⟨i + 1, by omega, by go_num, HBW9.out⟩, by simp [intOf]; omega⟩
      · obtain rfl : i = l.length := by omega
        have hpath := (rd_iff.1 HR.out).1
        have h0 : 0 < l.length := by
          cases l with
          | nil => exact absurd (show ((j : Nat) : Int) = -1 from hpath) (by omega)
          | cons p l => simp
        obtain ⟨q, hq⟩ : ∃ q, q = l.length - 1 := ⟨_, rfl⟩
        have hql : q < l.length := by omega
        obtain ⟨bp, op, hB, hbp, hp0, hp1, hp2⟩ := (HP.out.keep hb).at' q hql
        subst hB
        rw [path_last hpath hql (by omega)] at hp2
        have hsub : IntKind.i64.wrap ((l.length : Int) - 1) = (q : Int) := (IntWalk.i64_in _ (by omega)).trans (by omega)
        have hsub2 : (l.length : Int) - 1 = (q : Int) := by omega
        have hqi : (q : Int) < (l.length : Int) := by omega
        have hq0 : (0 : Int) ≤ (q : Int) := by omega
        have x0 := (HX.out.keep hb).cell 0
        have x1 := (HX.out.keep hb).cell 1
        have xl := (HX.out.keep hb).lt
        have HBW := Lib.hid ((HB4.out.trans (HB5.out.mono HB4.out.size)).trans (hb.mono (Nat.le_trans HB4.out.size HB5.out.size)))
        have hq20 : (q : Int) ≤ 20 := by omega
        clear hb hq hpath h0 hc5 hd5
        go_wp2
        go_ret
        exact ⟨rfl, HBW.out⟩
end
end Chn
end Go.Proofs.YtleehhpodgbomaaGreatDoor
/- Law 15's arguments, as they are read, opened: a raw device's words, an inode, a slot, a record. -/
namespace Go.Proofs.YtleehhpodgbomaaGreatDoor
open Go.ChangeShapes Go.WideShapes Go.ChangeAt Go.RowKit Go.Joins
namespace Vol
/-- a raw device's words, as they are handed in -/
structure RawA where
  x : Nat
  y : Nat
  k : Nat
  A : Option Addr
  ws : List Nat
  c : Nat
def RawA.val (r : RawA) : Value := .agg #[.int .u8 (r.x : Int), .int .u8 (r.y : Int), .int .u8 (r.k : Int), .slice r.A r.ws.length r.c]
def RawOk (W : World) (r : RawA) : Prop := r.x < 256 ∧ r.y < 256 ∧ r.k < 256 ∧ Pack.Wds W r.A r.ws
theorem cells_raw : Tryz.prog.cellsOf 24 = 4 := by kernel_rfl
theorem cells_slot : Tryz.prog.cellsOf 42 = 3 := by kernel_rfl
section
variable {H : Type} {enc : TypeId × Value → H} {W : World} {sp : Nat → Bool} {held : Bool} {r : Reach} {b0 : Nat} {v : Value} {d : DataW H} {p : List MemPlace}
set_option maxRecDepth 100000 in
theorem open_raw (hv : Value.okWide Tryz.prog W r b0 24 v) (h : DataW.Trod enc Tryz.prog W 0 sp held 24 v d p) : ∃ y : RawA, v = y.val ∧ RawOk W y := by
  obtain ⟨c0, c1, c2, c3, y0, y1, y2, y3, m, rfl, rfl, rfl, hy0, hy1, hy2, hy3⟩ := open_agg4 Tryz.underlying24 (by kernel_rfl) cells_raw hv h
  obtain ⟨a, e0, _, wa⟩ := DataW.trod_int Tryz.underlying5 hy0
  obtain ⟨b, e1, _, wb⟩ := DataW.trod_int Tryz.underlying5 hy1
  obtain ⟨c, e2, _, wc⟩ := DataW.trod_int Tryz.underlying5 hy2
  obtain ⟨A, l, cp, e3, hl⟩ := Pack.open_words hy3
  simp at e0 e1 e2
  subst e0 e1 e2 e3
  have ba := bounds_u8 wa
  have bb := bounds_u8 wb
  have bc := bounds_u8 wc
  obtain ⟨a, rfl⟩ := Int.eq_ofNat_of_zero_le ba.1
  obtain ⟨b, rfl⟩ := Int.eq_ofNat_of_zero_le bb.1
  obtain ⟨c, rfl⟩ := Int.eq_ofNat_of_zero_le bc.1
  exact ⟨⟨a, b, c, A, l, cp⟩, rfl, by show a < 256; omega, by show b < 256; omega, by show c < 256; omega, hl⟩

set_option maxRecDepth 100000 in
theorem open_slot (hv : Value.okWide Tryz.prog W r b0 42 v) (h : DataW.Trod enc Tryz.prog W 0 sp held 42 v d p) : ∃ y : Int × Int × Int, v = .agg #[.int .i64 y.1, .int .i64 y.2.1, .int .i64 y.2.2] ∧ True := by
  obtain ⟨c0, c1, c2, y0, y1, y2, m, rfl, rfl, rfl, hy0, hy1, hy2⟩ := open_agg3 Tryz.underlying42 (by kernel_rfl) cells_slot hv h
  obtain ⟨a, e0, _, wa⟩ := DataW.trod_int Tryz.underlying3 hy0
  obtain ⟨b, e1, _, wb⟩ := DataW.trod_int Tryz.underlying3 hy1
  obtain ⟨c, e2, _, wc⟩ := DataW.trod_int Tryz.underlying3 hy2
  simp at e0 e1 e2
  subst e0 e1 e2
  exact ⟨(a, b, c), rfl, trivial⟩
end
end Vol
end Go.Proofs.YtleehhpodgbomaaGreatDoor
