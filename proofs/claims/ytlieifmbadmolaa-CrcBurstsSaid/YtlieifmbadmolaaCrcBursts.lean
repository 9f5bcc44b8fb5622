/- CrcBursts, walked. -/
import Derived.Test.YtlieifmbadmolaaCrcTurn
import Derived.Laws.OwnMore
import Derived.OneCell
import Derived.RegionTactic
import Derived.ChangeAlike
namespace Go.Proofs.Ytlieifmbadmolaa
open Go.RowKit Go.MapKept
namespace Crc

theorem bts_news {W : World} {ad : Addr} {l : List Nat} (h : Bts W (some ad) l) : ∀ j u, (u8s l)[j]? = some u → W.cell? (ad.add j) = some u := by
  intro j u hu
  have hj : j < l.length := by
    have := (List.getElem?_eq_some_iff.1 hu).1
    simpa [u8s] using this
  obtain ⟨b, o, e, _, hc⟩ := h.at' j hj
  injection e with e
  subst e
  rw [Go.WideShapes.add_plain, hc, ← hu]
  simp [u8s, List.getElem?_eq_getElem hj]

theorem row_form {w : World} {base : Nat} {e : TypeId} {v : Value} {n : Nat} {xs : List Value} (h : w.ownsRow base e 1 v n xs) (hn : 0 < n) : ∃ g c, v = .slice (some ⟨g, 0, none⟩) n c := by
  rcases h.2 with ⟨_, h⟩ | ⟨g, cap, cur, h, _⟩
  · omega
  · exact ⟨g, cap, h⟩
theorem row_base {w : World} {b b' : Nat} {e : TypeId} {size n : Nat} {v : Value} {xs : List Value} (h : w.ownsRow b e size v n xs) (hb : b' ≤ b) : w.ownsRow b' e size v n xs := by
  refine ⟨h.1, ?_⟩
  rcases h.2 with h2 | ⟨g, cap, cur, e, hg, r⟩
  · exact .inl h2
  · exact .inr ⟨g, cap, cur, e, Nat.le_trans hb hg, r⟩

/-- a slice of bytes of the call's own -/
def Row (B : Nat) (W : World) (g cap n : Nat) (l : List Nat) : Prop := W.ownsRow B 5 1 (.slice (some ⟨g, 0, none⟩) n cap) n (u8s l)

theorem Row.len {B : Nat} {W : World} {g cap n : Nat} {l : List Nat} (h : Row B W g cap n l) : l.length = n := by
  have := h.1
  simpa [u8s] using this
theorem Row.cell {B : Nat} {W : World} {g cap n : Nat} {l : List Nat} (h : Row B W g cap n l) {j : Nat} (hj : j < n) : W.cell? ⟨g, j, none⟩ = some (.int .u8 ((l[j]?.getD 0 : Nat) : Int)) := by
  have hl := h.len
  rw [World.ownsRow.cellAt h j (by omega)]
  simp [u8s, List.getElem?_eq_getElem (show j < l.length by omega)]
theorem Row.set {B : Nat} {W : World} {g cap n : Nat} {l : List Nat} (h : Row B W g cap n l) (j x : Nat) : Row B (W.setCell ⟨g, j, none⟩ (.int .u8 (x : Int))) g cap n (l.set j x) := by
  have := (World.ownsRow.stored h j (.int .u8 (x : Int))).1
  unfold Row u8s
  rw [List.map_set]
  exact this
theorem Row.other {B : Nat} {W : World} {g g' cap n j : Nat} {l : List Nat} {u : Value} (h : Row B W g cap n l) (hne : g ≠ g') : Row B (W.setCell ⟨g', j, none⟩ u) g cap n l := by
  refine ownsRow_setCell_other h ?_ u
  simp only [Value.ownBlock, ne_eq, Option.some.injEq]
  exact hne
theorem Row.drew {B : Nat} {W : World} {g cap n : Nat} {l : List Nat} (h : Row B W g cap n l) : Row B W.drew g cap n l := h
theorem Row.ge {B : Nat} {W : World} {g cap n : Nat} {l : List Nat} (h : Row B W g cap n l) : B ≤ g := (World.ownsRow.lt h g rfl).1

/-- behind i bits: both copies, and how many are turned -/
structure BRel (w1 wr : World) (l : List Nat) (n f gc cc gd cd i tn : Nat) (c d : List Nat) (m m' : Nat) : Prop where
  rc : Row w1.heap.size wr gc cc n c
  rd : Row w1.heap.size wr gd cd n d
  ne : gc ≠ gd
  tc : Trn l f i m c
  td : Trn (l.map (rev 8)) f (min i 16) m' (d.map (rev 8))
  bd : Byt d
  tn0 : tn = 0 ↔ m' = 0
  tni : tn ≤ i
  bel : Below w1.heap.size w1 wr

theorem BRel.skip {w1 wr : World} {l : List Nat} {n f gc cc gd cd i tn : Nat} {c d : List Nat} {m m' : Nat} (h : BRel w1 wr l n f gc cc gd cd i tn c d m m') : BRel w1 wr l n f gc cc gd cd (i + 1) tn c d m m' := by
  refine ⟨h.rc, h.rd, h.ne, h.tc.skip, ?_, h.bd, h.tn0, Nat.le_succ_of_le h.tni, h.bel⟩
  by_cases h16 : i < 16
  · have e1 : min (i + 1) 16 = min i 16 + 1 := by omega
    rw [e1]
    exact h.td.skip
  · have e1 : min (i + 1) 16 = min i 16 := by omega
    rw [e1]
    exact h.td

/-- one bit of c turned -/
theorem BRel.one {w1 wr : World} {l : List Nat} {n f gc cc gd cd i tn : Nat} {c d : List Nat} {m m' : Nat} (h : BRel w1 wr l n f gc cc gd cd i tn c d m m') (h16 : ¬ i < 16) (hk : (f + i) / 8 < l.length) :
    BRel w1 (wr.setCell ⟨gc, (f + i) / 8, none⟩ (.int .u8 ((c[(f + i) / 8]?.getD 0 ^^^ 2 ^ ((f + i) % 8) : Nat) : Int))).drew l n f gc cc gd cd (i + 1) tn (c.set ((f + i) / 8) (c[(f + i) / 8]?.getD 0 ^^^ 2 ^ ((f + i) % 8))) d (m ^^^ 2 ^ i) m' := by
  refine ⟨(h.rc.set _ _).drew, (h.rd.other (Ne.symm h.ne)).drew, h.ne, h.tc.turn hk, ?_, h.bd, h.tn0, Nat.le_succ_of_le h.tni, (h.bel.setCell h.rc.ge _).drew⟩
  have e1 : min (i + 1) 16 = min i 16 := by omega
  rw [e1]
  exact h.td

/-- one bit of both turned -/
theorem BRel.both {w1 wr : World} {l : List Nat} {n f gc cc gd cd i tn : Nat} {c d : List Nat} {m m' : Nat} (h : BRel w1 wr l n f gc cc gd cd i tn c d m m') (h16 : i < 16) (hk : (f + i) / 8 < l.length) :
    BRel w1 ((wr.setCell ⟨gc, (f + i) / 8, none⟩ (.int .u8 ((c[(f + i) / 8]?.getD 0 ^^^ 2 ^ ((f + i) % 8) : Nat) : Int))).setCell ⟨gd, (f + i) / 8, none⟩ (.int .u8 ((d[(f + i) / 8]?.getD 0 ^^^ 2 ^ (7 - (f + i) % 8) : Nat) : Int))).drew.drew l n f gc cc gd cd (i + 1) (tn + 1) (c.set ((f + i) / 8) (c[(f + i) / 8]?.getD 0 ^^^ 2 ^ ((f + i) % 8))) (d.set ((f + i) / 8) (d[(f + i) / 8]?.getD 0 ^^^ 2 ^ (7 - (f + i) % 8))) (m ^^^ 2 ^ i) (m' ^^^ 2 ^ i) := by
  have e0 : min i 16 = i := by omega
  have e1 : min (i + 1) 16 = i + 1 := by omega
  have htd := h.td
  rw [e0] at htd
  refine ⟨((h.rc.set _ _).other h.ne).drew.drew, ((h.rd.other (Ne.symm h.ne)).set _ _).drew.drew, h.ne, h.tc.turn hk, ?_, h.bd.set _ (xor_bit_lt (get_byt h.bd _) (by omega)), ⟨fun h0 => by omega, fun h0 => absurd h0 (bit_in htd.lt).1⟩, Nat.succ_le_succ h.tni, ((h.bel.setCell h.rc.ge _).setCell h.rd.ge _).drew.drew⟩
  rw [e1, map_set_rev d _ _ (Nat.mod_lt _ (by omega))]
  exact htd.turn (by rw [List.length_map]; exact hk)

theorem str_toList {c l : List Nat} (h : (str c).toList = (str l).toList) : str c = str l := by
  unfold str at h
  rw [ByteArray.toList_mk, ByteArray.toList_mk] at h
  unfold str
  rw [h]

theorem xor_pow (x t : Nat) (hx : x < 256) (ht : t < 8) : bits .xor .u8 (x : Int) (2 ^ t % 256) = ((x ^^^ 2 ^ t : Nat) : Int) := by
  have hp : 2 ^ t < 2 ^ 8 := Nat.pow_lt_pow_right (by omega) ht
  have h1 : ((2 : Int) ^ t % 256) = ((2 ^ t : Nat) : Int) := by
    have : ((2 : Int) ^ t) = ((2 ^ t : Nat) : Int) := by simp
    rw [this]
    exact Int.emod_eq_of_lt (Int.natCast_nonneg _) (Int.ofNat_lt.2 hp)
  rw [h1]
  exact u8_xor_nat x _ hx hp

section
variable {w : World}
set_option maxHeartbeats 6400000 in
set_option maxRecDepth 100000 in
theorem bursts_any (A : Option Addr) (ca n : Nat) (l : List Nat) (hn : n = l.length) (h : Bts w A l) (hl0 : 0 < n) (hl2 : n ≤ 200) (k mask : Nat) (hk : k < 65536) (hmk : mask < 4294967296) (hm0 : mask ≠ 0) :
    Calls Try.prog 5 #[.slice A n ca, .int .u16 (k : Int), .int .u32 (mask : Int)] w fun r w' => r = .returned (.bool true) ∧ Below w.heap.size w w' := by
  have HL := Lib.hid (fun W => lives_any W)
  obtain ⟨b, o, rfl, hb0, hc0⟩ := h.at' 0 (by omega)
  have H := Lib.hid h
  have HN := Lib.hid hn
  clear h
  have hm0' : ((mask : Int) == 0) = false := by simp; omega
  have hl0' : ((n : Int) == 0) = false := by simp; omega
  have hf : k % (8 * n) < 8 * n := Nat.mod_lt _ (by omega)
  have hfe : (k : Int) % (8 * (n : Int)) = ((k % (8 * n) : Nat) : Int) := rfl
  generalize k % (8 * n) = f at *
  have hu8l : (u8s l).length = n * 1 := by simp [u8s, hn]
  clear hb0 hc0 hn hm0
  go_enter Try.func5, Try.ntmps5
  go_wp2_with fail
  refine (HL.out _).mono ?_
  rintro e w1 ⟨rfl, hb⟩
  have H1 := Lib.hid (H.out.keep hb)
  have HB := Lib.hid hb
  clear hb
  obtain ⟨i0, hi0, hz0, hz1, hz2⟩ := info_parts u8_info
  have HN1 := Lib.hid (bts_news (H1.out.alloc (.cells #[] 5)))
  have HO1 := Lib.hid (World.ownsRow_lit (base := w1.heap.size) (e := 5) (size := 1) w1 #[] 0 (Nat.le_refl _) (by unfold maxLen; omega) rfl)
  go_wp2_with (first
    | (at_builtin; refine wpList_append_own_at _ rfl (.tmp 30) (.tmp 31) 25 rfl w1.heap.size 5 i0 (.int .u8 0) 1 1 Try.underlying25 hi0 hz0 hz1 hz2 rfl (by decide) (.slice (some ⟨w1.heap.size, 0, none⟩) 0 0) 0 [] rfl HO1.out ⟨b, o, none⟩ n ca (u8s l) rfl hu8l HN1.out (u8s_one l) (by unfold maxLen; omega) (by omega) (by simp) ?_
       intro v2 w2 hown2 hgr2 _ _
       rw [Nat.zero_add, List.nil_append] at hown2
       obtain ⟨gc, cc, rfl⟩ := row_form hown2 hl0
       have hb2 : Below w1.heap.size w1 w2 := ((Below.refl _ _).alloc (Nat.le_refl _) _).grown hgr2 (by simp) (fun k hk => by simp [Value.ownBlock] at hk; omega)
       have HO2 := Lib.hid hown2
       have HB2 := Lib.hid hb2
       have HN2 := Lib.hid (bts_news ((H1.out.keep hb2).alloc (.cells #[] 5)))
       have HO2b := Lib.hid (World.ownsRow_lit (base := w2.heap.size) (e := 5) (size := 1) w2 #[] 0 (Nat.le_refl _) (by unfold maxLen; omega) rfl)
       clear hown2 hgr2 hb2)
    | (at_builtin; refine wpList_append_own_at _ rfl (.tmp 33) (.tmp 34) 25 rfl w2.heap.size 5 i0 (.int .u8 0) 1 1 Try.underlying25 hi0 hz0 hz1 hz2 rfl (by decide) (.slice (some ⟨w2.heap.size, 0, none⟩) 0 0) 0 [] rfl HO2b.out ⟨b, o, none⟩ n ca (u8s l) rfl hu8l HN2.out (u8s_one l) (by unfold maxLen; omega) (by omega) (by simp) ?_
       intro v3 w3 hown3 hgr3 _ _
       rw [Nat.zero_add, List.nil_append] at hown3
       obtain ⟨gd, cd, rfl⟩ := row_form hown3 hl0
       have HO3 := Lib.hid hown3
       have HG3 := Lib.hid hgr3
       clear hown3 hgr3))
  have hrel0 : BRel w1 w3 l n f gc cc gd cd 0 0 l l 0 0 := by
    have hlt := World.ownsRow.lt HO2.out gc rfl
    have hge := (World.ownsRow.lt HO3.out gd rfl).1
    have hsz := HB2.out.size
    refine ⟨(HO2.out.alloc _).kept HG3.out (.inr ?_), row_base HO3.out hsz, by omega, Trn.refl H1.out.byt f, Trn.refl (Byt.rev8 l) f, H1.out.byt, by simp, Nat.le_refl _, (HB2.out.alloc hsz _).grown HG3.out (by simp; omega) (fun k hk => ?_)⟩
    · simp only [Value.ownBlock, ne_eq, Option.some.injEq]
      omega
    · simp only [Value.ownBlock, Option.some.injEq] at hk
      omega
  have HR0 := Lib.hid hrel0
  clear hrel0 HO2 HO3 HG3 HO2b HN2 HO1 HN1 hz0 hz1 hz2 hi0
  go_loopw [10, 42] (fun t i wr => ∃ (q tn : Nat) (c d : List Nat) (m m' : Nat), q ≤ 32 ∧ i = .int .i64 (q : Int) ∧ t = .int .i64 (tn : Int) ∧ BRel w1 wr l n f gc cc gd cd q tn c d m m') (fun _ i _ => 32 - (intOf i).toNat)
  case atStart => exact ⟨0, 0, l, l, 0, 0, Nat.zero_le _, rfl, rfl, HR0.out⟩
  case round =>
    obtain ⟨q, tn, c, d, m, m', hq, rfl, rfl, hrel⟩ := hrel
    have htn := hrel.tni
    by_cases hlt : q < 32
    · have HR := Lib.hid hrel
      have hke : (f : Int) + (q : Int) = ((f + q : Nat) : Int) := rfl
      by_cases hk8 : f + q < 8 * n
      · have hbit : bits .and .u32 ((mask : Int) / 2 ^ q) 1 = ((mask / 2 ^ q % 2 : Nat) : Int) := by
          have h1 : ((mask : Int) / 2 ^ q) = ((mask / 2 ^ q : Nat) : Int) := by simp
          rw [h1]
          have h2 := u32_and_nat (mask / 2 ^ q) 1 (Nat.lt_of_le_of_lt (Nat.div_le_self _ _) hmk) (by omega)
          rw [nat_mask1] at h2
          exact h2
        have hkl : (f + q) / 8 < l.length := by have := HN.out; omega
        have hkn : (f + q) / 8 < n := by omega
        have ht8 : (f + q) % 8 < 8 := by omega
        have hcc := hrel.rc.cell hkn
        have hcd := hrel.rd.cell hkn
        have hfc := World.ownsRow.frozenAt hrel.rc ((f + q) / 8)
        have hfd := World.ownsRow.frozenAt hrel.rd ((f + q) / 8)
        have hxc := get_byt hrel.tc.byt ((f + q) / 8)
        have hxd := get_byt hrel.bd ((f + q) / 8)
        have HONE := Lib.hid (fun h16 => hrel.one (h16 : ¬ q < 16) hkl)
        have HBOTH := Lib.hid (fun h16 => hrel.both (h16 : q < 16) hkl)
        have HCD2 := Lib.hid (fun u => (hrel.rd.other (j := (f + q) / 8) (u := u) (Ne.symm hrel.ne)).cell hkn)
        have HFD2 := Lib.hid (fun u => World.ownsRow.frozenAt (hrel.rd.other (j := (f + q) / 8) (u := u) (Ne.symm hrel.ne)) ((f + q) / 8))
        clear hrel
        generalize f + q = kk at *
        generalize c[kk / 8]?.getD 0 = x at *
        generalize d[kk / 8]?.getD 0 = y at *
        rcases Nat.mod_two_eq_zero_or_one (mask / 2 ^ q) with hb2 | hb2
        · rw [hb2] at hbit
          clear hcc hcd hfc hfd
          go_wp2
          exact ⟨⟨q + 1, tn, c, d, m, m', by omega, by go_num, rfl, HR.out.skip⟩, by simp [intOf]; omega⟩
        · rw [hb2] at hbit
          have hx1 := xor_pow x (kk % 8) hxc ht8
          by_cases h16 : q < 16
          · have HU := Lib.hid (HBOTH.out h16)
            have hx2 := xor_pow y (7 - kk % 8) hxd (by omega)
            have hcd2 := HCD2.out (.int .u8 ((x ^^^ 2 ^ (kk % 8) : Nat) : Int))
            have hfd2 := HFD2.out (.int .u8 ((x ^^^ 2 ^ (kk % 8) : Nat) : Int))
            clear HBOTH HONE HR hcd hfd
            go_wp2
            go_region
            all_goals go_wp2
            all_goals go_region
            all_goals go_wp2
            all_goals exact ⟨⟨q + 1, tn + 1, _, _, _, _, by omega, by go_num, by go_num, HU.out⟩, by simp [intOf]; omega⟩
          · have HU := Lib.hid (HONE.out h16)
            clear HBOTH HONE HR hcd hfd
            go_wp2
            go_region
            all_goals go_wp2
            all_goals exact ⟨⟨q + 1, tn, _, _, _, _, by omega, by go_num, rfl, HU.out⟩, by simp [intOf]; omega⟩
      · clear hrel
        have hk8' : 8 * (n : Int) ≤ (f : Int) + (q : Int) := by omega
        clear hke
        go_wp2
        exact ⟨⟨q + 1, tn, c, d, m, m', by omega, by go_num, rfl, HR.out.skip⟩, by simp [intOf]; omega⟩
    · obtain rfl : q = 32 := by omega
      have hnl := HN.out
      have hlc : c.length = n := hrel.rc.len
      have hld : d.length = n := hrel.rd.len
      have hbc : Bts wr (some ⟨gc, 0, none⟩) c := own_bts hrel.rc hrel.tc.byt (by omega)
      have hbd : Bts wr (some ⟨gd, 0, none⟩) d := own_bts hrel.rd hrel.bd (by omega)
      have hbl : Bts wr (some ⟨b, o, none⟩) l := H1.out.keep hrel.bel
      have hcvc := conv_str cc hbc
      have hcvd := fun o' => conv_str cd (hbd.alloc o')
      have hcvl := conv_str ca hbl
      rw [hlc] at hcvc
      rw [← hnl] at hcvl
      have HBC := Lib.hid hbc
      have HBD := Lib.hid hbd
      have HBL := Lib.hid hbl
      have HBW := Lib.hid (HB.out.trans (hrel.bel.mono HB.out.size))
      have HLC := Lib.hid hlc
      have HLD := Lib.hid hld
      have HT32 := Lib.hid (fun h0 => hrel.tc.told32 H1.out.byt (Nat.le_refl _) (by omega) h0)
      have HT16 := Lib.hid (fun h0 => hrel.td.told16 (Nat.le_refl _) (by omega) h0)
      have HZ32 := Lib.hid hrel.tc.zero
      have HZ16 := Lib.hid (fun h0 => map_rev_inj H1.out.byt hrel.bd (hrel.td.zero h0))
      have HT0 := Lib.hid hrel.tn0
      have HYC := Lib.hid hrel.tc.byt
      clear hrel hbc hbd hbl hlc hld hcvd hnl
      by_cases hm0 : m = 0
      · have ec := (HZ32.out hm0).symm
        subst ec
        by_cases ht0 : tn = 0
        · subst ht0
          have ed := (HZ16.out (HT0.out.1 rfl)).symm
          subst ed
          have hcvd := conv_str cd HBD.out
          have hcvl := conv_str ca HBL.out
          rw [HLD.out] at hcvd hcvl
          go_wp2
          go_ret
          exact ⟨rfl, HBW.out⟩
        · have h16 := HT16.out (fun h => ht0 (HT0.out.2 h))
          have ht0' : ((tn : Int) == 0) = false := by simp; omega
          have hn16 : (((S16 d : Nat) : Int) != ((S16 l : Nat) : Int)) = true := by simp; omega
          have c1 := sum16_one cd 1 HBD.out
          have c2 := sum16_one ca 1 (HBL.out.alloc (.cells #[.slice (some ⟨gd, 0, none⟩) n cd] 25))
          rw [HLD.out] at c1
          rw [← HN.out, World.size_alloc] at c2
          have C1 := Lib.hid c1
          have C2 := Lib.hid c2
          clear c1 c2 ht0 h16
          go_wp2_with fail
          refine C1.out.mono ?_
          rintro e w' ⟨rfl, rfl⟩
          go_wp2_with fail
          refine C2.out.mono ?_
          rintro e w' ⟨rfl, rfl⟩
          go_wp2
          go_ret
          exact ⟨rfl, (HBW.out.alloc HBW.out.size _).alloc (by have := HBW.out.size; simp; omega) _⟩
      · have h32 := HT32.out hm0
        have hne : ¬ str c = str l := fun e => h32 (by rw [str_inj H1.out.byt HYC.out e])
        have hne' : ¬ (str c).toList = (str l).toList := fun e => hne (str_toList e)
        have hn32 : (((S32 c : Nat) : Int) == ((S32 l : Nat) : Int)) = false := by simp; omega
        have c1 := sum32_one cc 1 HBC.out
        have c2 := sum32_one ca 1 (HBL.out.alloc (.cells #[.slice (some ⟨gc, 0, none⟩) n cc] 25))
        rw [HLC.out] at c1
        rw [← HN.out, World.size_alloc] at c2
        have C1 := Lib.hid c1
        have C2 := Lib.hid c2
        have HBD5 := Lib.hid ((HBD.out.alloc (.cells #[.slice (some ⟨gc, 0, none⟩) n cc] 25)).alloc (.cells #[.slice (some ⟨b, o, none⟩) n ca] 25))
        have HBL5 := Lib.hid ((HBL.out.alloc (.cells #[.slice (some ⟨gc, 0, none⟩) n cc] 25)).alloc (.cells #[.slice (some ⟨b, o, none⟩) n ca] 25))
        have HB5 := Lib.hid ((HBW.out.alloc HBW.out.size (.cells #[.slice (some ⟨gc, 0, none⟩) n cc] 25)).alloc (by have := HBW.out.size; simp; omega) (.cells #[.slice (some ⟨b, o, none⟩) n ca] 25))
        clear c1 c2 h32 hne
        go_wp2_with fail
        refine C1.out.mono ?_
        rintro e w' ⟨rfl, rfl⟩
        go_wp2_with fail
        refine C2.out.mono ?_
        clear C1 C2
        generalize (wr.alloc (.cells #[.slice (some ⟨gc, 0, none⟩) n cc] 25)).alloc (.cells #[.slice (some ⟨b, o, none⟩) n ca] 25) = w5 at *
        rintro e w' ⟨rfl, rfl⟩
        clear hcvc hcvl
        by_cases ht0 : tn = 0
        · subst ht0
          have ed := (HZ16.out (HT0.out.1 rfl)).symm
          subst ed
          have hcvd := conv_str cd HBD5.out
          have hcvl := conv_str ca HBL5.out
          rw [HLD.out] at hcvd hcvl
          go_wp2
          go_ret
          exact ⟨rfl, HB5.out⟩
        · have h16 := HT16.out (fun h => ht0 (HT0.out.2 h))
          have ht0' : ((tn : Int) == 0) = false := by simp; omega
          have hn16 : (((S16 d : Nat) : Int) != ((S16 l : Nat) : Int)) = true := by simp; omega
          have c1 := sum16_one cd 1 HBD5.out
          have c2 := sum16_one ca 1 (HBL5.out.alloc (.cells #[.slice (some ⟨gd, 0, none⟩) n cd] 25))
          rw [HLD.out] at c1
          rw [← HN.out, World.size_alloc] at c2
          have C1 := Lib.hid c1
          have C2 := Lib.hid c2
          clear c1 c2 ht0 h16
          go_wp2_with fail
          refine C1.out.mono ?_
          rintro e w' ⟨rfl, rfl⟩
          go_wp2_with fail
          refine C2.out.mono ?_
          rintro e w' ⟨rfl, rfl⟩
          go_wp2
          go_ret
          exact ⟨rfl, (HB5.out.alloc HB5.out.size _).alloc (by have := HB5.out.size; simp; omega) _⟩
end
end Crc
end Go.Proofs.Ytlieifmbadmolaa
