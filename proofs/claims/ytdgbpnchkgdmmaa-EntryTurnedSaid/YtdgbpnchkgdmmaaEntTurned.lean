/- EntryTurned, walked. -/
import Derived.Test.YtdgbpnchkgdmmaaEntLives
namespace Go.Proofs.Ytdgbpnchkgdmmaa
open Go.RowKit Go.MapKept
namespace Ent

theorem q4_inj {x y : Nat} (hx : x < 4294967296) (hy : y < 4294967296) (h : q4 x = q4 y) : x = y := by
  unfold q4 at h
  simp only [List.cons.injEq, and_true] at h
  omega

/-- bytes whose sum does not fit are none's -/
theorem bad_none {c q : List Nat} (hc : c.length = 60) (h : q ≠ q4 (Crc.S32 c)) : dec (c ++ q) = none := by
  refine dec_none (fun l i hm e => h ?_)
  have hl := front_len (may_len hm) i
  unfold enc at e
  have h1 := List.append_inj e (by rw [hc, hl])
  rw [h1.2, h1.1]

theorem turn_none {F c : List Nat} {f m : Nat} (hF : Crc.Byt F) (hl : F.length = 60) (h : Crc.Trn F f 32 m c) (hf : f ≤ 480) (h0 : m ≠ 0) : dec (c ++ q4 (Crc.S32 F)) = none ∧ c ++ q4 (Crc.S32 F) ≠ F ++ q4 (Crc.S32 F) := by
  have ht := h.told32 hF (Nat.le_refl _) (by omega) h0
  refine ⟨bad_none (by rw [h.len, hl]) (fun e => ht (q4_inj (s32_lt _) (s32_lt _) e).symm), fun e => ht ?_⟩
  rw [List.append_cancel_right e]

theorem set_app {F Q : List Nat} {j x : Nat} (hj : F.length ≤ j) : (F ++ Q).set j x = F ++ Q.set (j - F.length) x := List.set_append_right j x hj

theorem bit_ne (x t : Nat) : x ^^^ 2 ^ t ≠ x := by
  intro h
  have h1 : (x ^^^ 2 ^ t).testBit t = x.testBit t := by rw [h]
  rw [Nat.testBit_xor, Nat.testBit_two_pow_self] at h1
  cases x.testBit t <;> simp at h1

theorem sum_none {F : List Nat} {j t : Nat} (hl : F.length = 60) (hj : 60 ≤ j) (hj4 : j < 64) : dec ((F ++ q4 (Crc.S32 F)).set j (at' (F ++ q4 (Crc.S32 F)) j ^^^ 2 ^ t)) = none ∧ (F ++ q4 (Crc.S32 F)).set j (at' (F ++ q4 (Crc.S32 F)) j ^^^ 2 ^ t) ≠ F ++ q4 (Crc.S32 F) := by
  have hne : (q4 (Crc.S32 F)).set (j - F.length) (at' (F ++ q4 (Crc.S32 F)) j ^^^ 2 ^ t) ≠ q4 (Crc.S32 F) := by
    intro e
    have hjq : j - F.length < (q4 (Crc.S32 F)).length := by rw [q4_len]; omega
    have h1 := congrArg (·[j - F.length]?) e
    simp only [List.getElem?_set_self hjq, List.getElem?_eq_getElem hjq, Option.some.injEq] at h1
    have h2 : at' (F ++ q4 (Crc.S32 F)) j = (q4 (Crc.S32 F))[j - F.length] := by
      unfold at'
      rw [List.getElem?_append_right (by omega), List.getElem?_eq_getElem hjq]
      rfl
    rw [h2] at h1
    exact bit_ne _ _ h1
  rw [set_app (by omega)]
  exact ⟨bad_none hl hne, fun e => hne (List.append_cancel_left e)⟩

theorem Row.setl {w : World} {g : Nat} {l : List Nat} (h : Row w g (at' l)) (hl : l.length = 64) {j : Nat} (hj : j < 64) (x : Nat) : Row (w.setCell ⟨g, j, none⟩ (.int .u8 (x : Int))) g (at' (l.set j x)) :=
  (h.set j x).congr (fun i _ => by
    unfold at'
    by_cases e : i = j
    · subst e
      rw [if_pos rfl, List.getElem?_set_self (by omega)]
      rfl
    · rw [if_neg e, List.getElem?_set_ne (fun h => e h.symm)])

theorem xor_pow (x t : Nat) (hx : x < 256) (ht : t < 8) : bits .xor .u8 (x : Int) (2 ^ t % 256) = ((x ^^^ 2 ^ t : Nat) : Int) := by
  have hp : 2 ^ t < 2 ^ 8 := Nat.pow_lt_pow_right (by omega) ht
  have h1 : ((2 : Int) ^ t % 256) = ((2 ^ t : Nat) : Int) := by
    have : ((2 : Int) ^ t) = ((2 ^ t : Nat) : Int) := by simp
    rw [this]
    exact Int.emod_eq_of_lt (Int.natCast_nonneg _) (Int.ofNat_lt.2 hp)
  rw [h1]
  exact u8_xor_nat x _ hx hp

/-- the law's letters -/
def ltr (x : Nat) : Nat := 97 + x % 26
theorem ltr_right {l : List Nat} (h0 : 0 < l.length) (h48 : l.length ≤ 48) : Right (l.map ltr) := by
  refine ⟨⟨by rw [List.length_map]; omega, by rw [List.length_map]; omega⟩, fun e => ?_, fun e => ?_, fun x hx => ?_⟩
  · have : 46 ∈ l.map ltr := by rw [e]; simp
    obtain ⟨y, _, hy⟩ := List.mem_map.1 this
    unfold ltr at hy
    omega
  · have : 46 ∈ l.map ltr := by rw [e]; simp
    obtain ⟨y, _, hy⟩ := List.mem_map.1 this
    unfold ltr at hy
    omega
  · obtain ⟨y, _, rfl⟩ := List.mem_map.1 hx
    unfold ltr
    omega

theorem dec_zero (w : World) (g : Nat) (L : List Nat) (hr : Row w g (at' L)) (hl : L.length = 64) (hb : Crc.Byt L) (h : dec L = none) : Calls Try.prog 15 #[.slice (some ⟨g, 0, none⟩) 64 64] w fun r w' => r = .returned (.tuple #[.agg #[.string ⟨#[]⟩, .int .i64 0], .int .i64 2]) ∧ Below w.heap.size w w' := by
  have hd := decode_any w (some ⟨g, 0, none⟩) 64 64 L (row_enc hr hl hb) hl.symm (by omega)
  rw [h] at hd
  exact hd
theorem dec_same (w : World) (g : Nat) (L : List Nat) (S : ByteArray) (k : Nat) (hr : Row w g (at' L)) (hl : L.length = 64) (hb : Crc.Byt L) (h : dec L = some (Crc.tx S, k)) : Calls Try.prog 15 #[.slice (some ⟨g, 0, none⟩) 64 64] w fun r w' => r = .returned (.tuple #[.agg #[.string S, .int .i64 (k : Int)], .int .i64 0]) ∧ Below w.heap.size w w' := by
  have hd := decode_any w (some ⟨g, 0, none⟩) 64 64 L (row_enc hr hl hb) hl.symm (by omega)
  rw [h] at hd
  simp only [gv, ev, str_tx] at hd
  exact hd
theorem conv64 {w : World} {g : Nat} {L : List Nat} (hr : Row w g (at' L)) (hl : L.length = 64) (hb : Crc.Byt L) : (convert 29 9 (.slice (some ⟨g, 0, none⟩) 64 64)).run Try.prog w = .ok (.string (Crc.str L)) w := by
  have := Crc.conv_str 64 (row_enc hr hl hb)
  rwa [hl] at this
theorem str_ne {l m : List Nat} (hl : Crc.Byt l) (hm : Crc.Byt m) (h : l ≠ m) : ¬ (Crc.str l).toList = (Crc.str m).toList := by
  intro e
  have h1 := str_beq hl hm
  rw [decide_eq_false h, e] at h1
  simp at h1

section
variable {w : World}
set_option maxHeartbeats 1000000 in
theorem turned_long (A : Option Addr) (c n d t mask : Nat) (hn : n ≤ 9223372036854775807) (h : n = 0 ∨ 48 < n) :
    Calls Try.prog 7 #[.int .u16 (d : Int), .slice A n c, .int .u16 (t : Int), .int .u32 (mask : Int)] w fun r w' => r = .returned (.bool true) ∧ Below w.heap.size w w' := by
  have HL := Lib.hid lives_any
  rcases h with rfl | h
  all_goals
    (go_enter Try.func7, Try.ntmps7
     go_wp2_with fail
     refine (HL.out _).mono ?_
     rintro e w1 ⟨rfl, hb⟩
     have HB := Lib.hid hb
     clear hb
     go_wp2_with fail
     refine (HL.out _).mono ?_
     rintro e w2 ⟨rfl, hb⟩
     have HB2 := Lib.hid (HB.out.trans (hb.mono HB.out.size))
     clear hb
     go_wp2
     go_ret
     exact ⟨rfl, HB2.out⟩)

set_option maxHeartbeats 4000000 in
set_option maxRecDepth 100000 in
theorem turned_core (A : Option Addr) (c n d t mask : Nat) (l : List Nat) (hn : n = l.length) (h : Crc.Bts w A l) (hl0 : 0 < n) (hl2 : n ≤ 48) (hd : d < 65536) (ht : t < 65536) (hmk : mask < 4294967296) :
    Calls Try.prog 7 #[.int .u16 (d : Int), .slice A n c, .int .u16 (t : Int), .int .u32 (mask : Int)] w fun r w' => r = .returned (.bool true) ∧ Below w.heap.size w w' := by
  have HL := Lib.hid lives_any
  have H := Lib.hid h
  have HN := Lib.hid hn
  have hl0' : ((n : Int) == 0) = false := by simp; omega
  have hl48 : decide (48 < (n : Int)) = false := decide_eq_false (by omega)
  clear h hn
  go_enter Try.func7, Try.ntmps7
  go_wp2_with fail
  refine (HL.out _).mono ?_
  rintro e w1 ⟨rfl, hb⟩
  have H1 := Lib.hid (H.out.keep hb)
  have HB1 := Lib.hid hb
  clear hb H
  go_wp2
  go_loopw [9, 34] (fun v i wr => ∃ (m : Nat) (S : ByteArray), m ≤ n ∧ i = .int .i64 (m : Int) ∧ v = .string S ∧ S.size = m ∧ Crc.tx S = (l.take m).map ltr ∧ Below w1.heap.size w1 wr) (fun _ i _ => n - (intOf i).toNat)
  case atStart => exact ⟨0, ⟨#[]⟩, Nat.zero_le _, rfl, rfl, rfl, rfl, Below.refl _ _⟩
  case round =>
    obtain ⟨m, S, hm, rfl, rfl, hS, hT, hb⟩ := hrel
    have HT := Lib.hid hT
    have HS := Lib.hid hS
    have HB := Lib.hid hb
    have hS1 : S.size ≤ 48 := by omega
    clear hS hT
    by_cases hlt : m < n
    · have hml : m < l.length := by have := HN.out; omega
      obtain ⟨b, o, rfl, hbb, hc⟩ := H1.out.at' m hml
      have hc0 := (hb.cell (p := ⟨b, o + m, none⟩) hbb).trans hc
      have hxb : l[m] < 256 := H1.out.byt _ (List.getElem_mem hml)
      have HTK := Lib.hid (show (l.take (m + 1)).map ltr = (l.take m).map ltr ++ [97 + l[m] % 26] by
        rw [List.take_succ_eq_append_getElem hml, List.map_append]
        rfl)
      clear hb hc
      generalize l[m] = x at *
      have hc1 := conv_one wr (97 + x % 26) (by omega)
      have ec : ((97 + x % 26 : Nat) : Int) = 97 + (x : Int) % 26 := rfl
      rw [ec] at hc1
      have HTX := Lib.hid (show Crc.tx (S ++ Crc.str [97 + x % 26]) = (l.take (m + 1)).map ltr by
        rw [tx_append, HT.out, HTK.out, Crc.tx_str (fun q hq => by simp only [List.mem_cons, List.not_mem_nil, or_false] at hq; omega)])
      have hZ1 : (Crc.str [97 + x % 26]).size ≤ 1 := by rw [Crc.str_size]; simp
      have HZ := Lib.hid (show (Crc.str [97 + x % 26]).size = 1 by rw [Crc.str_size]; rfl)
      have HB2 := Lib.hid (HB.out.alloc HB.out.size (.cells #[.int .u8 (97 + (x : Int) % 26)] 5))
      clear ec
      generalize Crc.str [97 + x % 26] = Z at *
      go_wp2
      refine ⟨⟨m + 1, S ++ Z, by omega, by go_num, rfl, ?_, HTX.out, HB2.out⟩, by simp [intOf]; omega⟩
      rw [ByteArray.size_append, HS.out, HZ.out]
    · obtain rfl : m = n := by omega
      have hTn := HT.out
      rw [List.take_of_length_le (by have := HN.out; omega)] at hTn
      have hmay : may (Crc.tx S) ((d % 65534 : Nat) : Int) = true := may_iff.2 ⟨by rw [hTn]; exact ltr_right (by have := HN.out; omega) (by have := HN.out; omega), by omega, by omega⟩
      have HE := Lib.hid (fun w => encode_yes w S (d % 65534) hmay)
      have hde : (d : Int) % 65534 = ((d % 65534 : Nat) : Int) := rfl
      have HL48 := Lib.hid (may_len hmay)
      have HDE := Lib.hid (dec_enc hmay)
      clear hTn hmay HT hb HS
      generalize d % 65534 = k at *
      go_wp2_with fail
      refine (HE.out _).mono ?_
      rintro e w2 ⟨g, hg, rfl, hr, hb⟩
      obtain ⟨F, hF⟩ : ∃ F, F = front (Crc.tx S) k := ⟨_, rfl⟩
      have hFl : F.length = 60 := by rw [hF]; exact front_len HL48.out k
      have hFb : Crc.Byt F := by rw [hF]; exact front_byt (Crc.tx_byt S) HL48.out k
      have hEL : enc (Crc.tx S) k = F ++ q4 (Crc.S32 F) := by rw [hF]; rfl
      rw [hEL] at hr HDE
      have HR2 := Lib.hid hr
      have HFL := Lib.hid hFl
      have HFB := Lib.hid hFb
      have HLL := Lib.hid (show (F ++ q4 (Crc.S32 F)).length = 64 by rw [List.length_append, hFl, q4_len])
      have HLB := Lib.hid (hFb.append (q4_byt (Crc.S32 F)))
      have hwg : w.heap.size ≤ g := Nat.le_trans HB1.out.size (Nat.le_trans HB.out.size hg)
      have HB2 := Lib.hid ((HB1.out.trans (HB.out.mono HB1.out.size)).trans (hb.mono (HB1.out.trans (HB.out.mono HB1.out.size)).size))
      have hcv := conv64 HR2.out HLL.out HLB.out
      clear hr hb hF hFl hFb hEL HE HB HB1 hg
      have hf512 : t % 512 < 512 := Nat.mod_lt _ (by omega)
      have hfe : (t : Int) % 512 = ((t % 512 : Nat) : Int) := rfl
      generalize t % 512 = f at *
      by_cases h480 : 480 ≤ f
      · have hL := HLL.out
        have hc0 := HR2.out.cell (i := f / 8) (by omega)
        have hf0 := HR2.out.frozen (f / 8)
        have hxb : at' (F ++ q4 (Crc.S32 F)) (f / 8) < 256 := Crc.get_byt HLB.out _
        have hx1 := xor_pow (at' (F ++ q4 (Crc.S32 F)) (f / 8)) (f % 8) hxb (by omega)
        obtain ⟨hno, hne⟩ := sum_none (t := f % 8) HFL.out (show 60 ≤ f / 8 by omega) (by omega)
        have HR3 := Lib.hid (HR2.out.setl HLL.out (show f / 8 < 64 by omega) (at' (F ++ q4 (Crc.S32 F)) (f / 8) ^^^ 2 ^ (f % 8))).drew
        have HB3 := Lib.hid (HB2.out.setCell (p := ⟨g, f / 8, none⟩) hwg (.int .u8 ((at' (F ++ q4 (Crc.S32 F)) (f / 8) ^^^ 2 ^ (f % 8) : Nat) : Int))).drew
        have hlb : Crc.Byt ((F ++ q4 (Crc.S32 F)).set (f / 8) (at' (F ++ q4 (Crc.S32 F)) (f / 8) ^^^ 2 ^ (f % 8))) := HLB.out.set _ (Crc.xor_bit_lt hxb (by omega))
        have hll : ((F ++ q4 (Crc.S32 F)).set (f / 8) (at' (F ++ q4 (Crc.S32 F)) (f / 8) ^^^ 2 ^ (f % 8))).length = 64 := by rw [List.length_set]; exact HLL.out
        have hsn := str_ne hlb HLB.out hne
        have HNO := Lib.hid hno
        have HLL' := Lib.hid hll
        have HLB' := Lib.hid hlb
        have HSN := Lib.hid hsn
        clear hno hne hll hlb hL hsn
        generalize (F ++ q4 (Crc.S32 F)).set (f / 8) (at' (F ++ q4 (Crc.S32 F)) (f / 8) ^^^ 2 ^ (f % 8)) = L' at *
        generalize at' (F ++ q4 (Crc.S32 F)) (f / 8) = x at *
        generalize F ++ q4 (Crc.S32 F) = L at *
        generalize hE0 : Crc.str L = E at *
        clear hE0
        go_wp2
        go_region
        clear hcv hc0 hf0 hx1
        go_wp2_with fail
        refine (dec_zero _ g L' HR3.out HLL'.out HLB'.out HNO.out).mono ?_
        rintro e w4 ⟨rfl, hb⟩
        have hba := (Below.refl w4.heap.size w4).alloc (Nat.le_refl _) (.cells #[.string ⟨#[]⟩, .int .i64 0] 23)
        have hcv4 := conv64 ((HR3.out.keep hb).keep hba) HLL'.out HLB'.out
        have HB4 := Lib.hid ((HB3.out.trans (hb.mono HB3.out.size)).trans (hba.mono (HB3.out.trans (hb.mono HB3.out.size)).size))
        have hsn := HSN.out
        have hsf : ((Crc.str L').toList == E.toList) = false := by simpa using hsn
        clear hb hba
        generalize Crc.str L' = E4 at *
        go_wp2
        go_ret
        exact ⟨rfl, HB4.out⟩
      · have hd480 : decide (480 ≤ (f : Int)) = false := decide_eq_false (by omega)
        have hE0 : ∃ E, Crc.str (F ++ q4 (Crc.S32 F)) = E := ⟨_, rfl⟩
        obtain ⟨E, hE⟩ := hE0
        rw [hE] at hcv
        have HE := Lib.hid hE
        have HQB := Lib.hid (q4_byt (Crc.S32 F))
        have HQL := Lib.hid (q4_len (Crc.S32 F))
        have HTN := Lib.hid (fun (c : List Nat) (m : Nat) (hT : Crc.Trn F f 32 m c) (h0 : m ≠ 0) => turn_none HFB.out HFL.out hT (by omega) h0)
        clear hE
        generalize q4 (Crc.S32 F) = Q at *
        go_wp2
        clear hcv hfe hde hd480
        go_loopw [79] (fun i wr => ∃ (q m : Nat) (c : List Nat), q ≤ 32 ∧ i = .int .i64 (q : Int) ∧ Row wr g (at' (c ++ Q)) ∧ Crc.Trn F f q m c ∧ Below w.heap.size w wr) (fun i _ => 32 - (intOf i).toNat)
        case atStart => exact ⟨0, 0, F, Nat.zero_le _, rfl, HR2.out, Crc.Trn.refl HFB.out f, HB2.out⟩
        case round =>
          obtain ⟨q, m, c, hq, rfl, hr, hT, hbw⟩ := hrel
          have HR := Lib.hid hr
          have HT := Lib.hid hT
          have HBW := Lib.hid hbw
          clear hr hT hbw
          by_cases hlt : q < 32
          · have hke : (f : Int) + (q : Int) = ((f + q : Nat) : Int) := rfl
            by_cases hk8 : f + q < 480
            · have hbit : bits .and .u32 ((mask : Int) / 2 ^ q) 1 = ((mask / 2 ^ q % 2 : Nat) : Int) := by
                have h1 : ((mask : Int) / 2 ^ q) = ((mask / 2 ^ q : Nat) : Int) := by simp
                rw [h1]
                have h2 := u32_and_nat (mask / 2 ^ q) 1 (Nat.lt_of_le_of_lt (Nat.div_le_self _ _) hmk) (by omega)
                rw [nat_mask1] at h2
                exact h2
              have hcl : c.length = 60 := by rw [HT.out.len, HFL.out]
              have hll : (c ++ Q).length = 64 := by rw [List.length_append, hcl, HQL.out]
              have hc0 := HR.out.cell (i := (f + q) / 8) (by omega)
              have hf0 := HR.out.frozen ((f + q) / 8)
              have hat : at' (c ++ Q) ((f + q) / 8) = c[(f + q) / 8]?.getD 0 := by
                unfold at'
                rw [List.getElem?_append_left (by omega)]
              rw [hat] at hc0
              have hxb := Crc.get_byt HT.out.byt ((f + q) / 8)
              have HTT := Lib.hid (HT.out.turn (show (f + q) / 8 < F.length by rw [HFL.out]; omega))
              have hrw := HR.out.setl hll (show (f + q) / 8 < 64 by omega) (c[(f + q) / 8]?.getD 0 ^^^ 2 ^ ((f + q) % 8))
              rw [List.set_append_left _ _ (by omega)] at hrw
              have HRW := Lib.hid hrw.drew
              have HBB := Lib.hid (HBW.out.setCell (p := ⟨g, (f + q) / 8, none⟩) hwg (.int .u8 ((c[(f + q) / 8]?.getD 0 ^^^ 2 ^ ((f + q) % 8) : Nat) : Int))).drew
              have ht8 : (f + q) % 8 < 8 := by omega
              clear hat hcl hll hrw
              generalize f + q = kk at *
              generalize c[kk / 8]?.getD 0 = x at *
              rcases Nat.mod_two_eq_zero_or_one (mask / 2 ^ q) with hb2 | hb2
              · rw [hb2] at hbit
                clear hc0 hf0
                go_wp2
                exact ⟨⟨q + 1, m, c, by omega, by go_num, HR.out, HT.out.skip, HBW.out⟩, by simp [intOf]; omega⟩
              · rw [hb2] at hbit
                have hx1 := xor_pow x (kk % 8) hxb ht8
                go_wp2
                go_region
                go_wp2
                exact ⟨⟨q + 1, _, _, by omega, by go_num, HRW.out, HTT.out, HBB.out⟩, by simp [intOf]; omega⟩
            · have hkb : f + q ≤ 9223372036854775807 := by omega
              generalize f + q = kk at *
              have hk8' : decide ((kk : Int) < 480) = false := decide_eq_false (by omega)
              go_wp2
              exact ⟨⟨q + 1, m, c, by omega, by go_num, HR.out, HT.out.skip, HBW.out⟩, by simp [intOf]; omega⟩
          · obtain rfl : q = 32 := by omega
            by_cases hm : m = 0
            · obtain rfl := HT.out.zero hm
              have HD := Lib.hid (dec_same wr g _ S k HR.out HLL.out HLB.out HDE.out)
              clear hm
              go_wp2_with fail
              refine HD.out.mono ?_
              rintro e w4 ⟨rfl, hb⟩
              have hba := (Below.refl w4.heap.size w4).alloc (Nat.le_refl _) (.cells #[.string S, .int .i64 (k : Int)] 23)
              have hcv4 := conv64 ((HR.out.keep hb).keep hba) HLL.out HLB.out
              rw [HE.out] at hcv4
              have HB4 := Lib.hid ((HBW.out.trans (hb.mono HBW.out.size)).trans (hba.mono (HBW.out.trans (hb.mono HBW.out.size)).size))
              clear hb hba
              go_wp2
              go_ret
              exact ⟨rfl, HB4.out⟩
            · obtain ⟨hno, hne⟩ := HTN.out c m HT.out hm
              have hll : (c ++ Q).length = 64 := by rw [List.length_append, HT.out.len, HFL.out, HQL.out]
              have hlb : Crc.Byt (c ++ Q) := HT.out.byt.append HQB.out
              have hsn := str_ne hlb HLB.out hne
              rw [HE.out] at hsn
              have HNO := Lib.hid hno
              have HLL' := Lib.hid hll
              have HLB' := Lib.hid hlb
              have HSN := Lib.hid hsn
              clear hno hne hll hlb hsn hm
              generalize c ++ Q = L' at *
              go_wp2_with fail
              refine (dec_zero _ g L' HR.out HLL'.out HLB'.out HNO.out).mono ?_
              rintro e w4 ⟨rfl, hb⟩
              have hba := (Below.refl w4.heap.size w4).alloc (Nat.le_refl _) (.cells #[.string ⟨#[]⟩, .int .i64 0] 23)
              have hcv4 := conv64 ((HR.out.keep hb).keep hba) HLL'.out HLB'.out
              have HB4 := Lib.hid ((HBW.out.trans (hb.mono HBW.out.size)).trans (hba.mono (HBW.out.trans (hb.mono HBW.out.size)).size))
              have hsn := HSN.out
              have hsf : ((Crc.str L').toList == E.toList) = false := by simpa using hsn
              clear hb hba
              generalize Crc.str L' = E4 at *
              go_wp2
              go_ret
              exact ⟨rfl, HB4.out⟩
end
end Ent
end Go.Proofs.Ytdgbpnchkgdmmaa
