/- Decode, walked. -/
import Derived.Test.YtdgbpnchkgdmmaaEntEncode
namespace Go.Proofs.Ytdgbpnchkgdmmaa
open Go.RowKit Go.MapKept
namespace Ent

/-- an entry, zero if there is none -/
def gv : Option (List Nat × Nat) → Value
  | some (l, k) => .agg #[.string (Crc.str l), .int .i64 (k : Int)]
  | none => .agg #[.string ⟨#[]⟩, .int .i64 0]
/-- the error -/
def ev : Option (List Nat × Nat) → Int
  | some _ => 0
  | none => 2

theorem dec_len {l : List Nat} (h : l.length ≠ 64) : dec l = none := by
  unfold dec
  exact if_neg (fun e => h e.1)
theorem dec_name {l : List Nat} (h : ¬ l[2]?.getD 0 ≤ 48) : dec l = none := by
  unfold dec
  exact if_neg (fun e => h e.2.1)

set_option maxHeartbeats 1000000 in
theorem decode_len (w : World) (A : Option Addr) (n c : Nat) (h64 : n ≠ 64) :
    Calls Try.prog 15 #[.slice A n c] w fun r w' => r = .returned (.tuple #[gv none, .int .i64 (ev none)]) ∧ Below w.heap.size w w' := by
  have hne : ((n : Int) != 64) = true := by simp; omega
  go_enter Try.func15, Try.ntmps15
  go_wp2
  refine bodyPost_ret (v := .tuple #[gv none, .int .i64 (ev none)]) ?_ rfl ⟨rfl, ?_⟩
  · simp [results, Try.results15, go_sem, gv, ev]
  · first
    | exact (Below.refl _ _).alloc (Nat.le_refl _) _
    | exact (((Below.refl _ _).alloc (Nat.le_refl _) _).setCell (by simp) _).setCell (by simp) _

/-- 64 bytes lie there, of at least so much room -/
structure At64 (w : World) (b o : Nat) (l : List Nat) : Prop where
  bts : Crc.Bts w (some ⟨b, o, none⟩) l
  len : l.length = 64
  lt : b < w.heap.size
theorem At64.cell {w : World} {b o : Nat} {l : List Nat} (h : At64 w b o l) (j : Nat) (hj : j < 64) : w.cell? ⟨b, o + j, none⟩ = some (.int .u8 ((at' l j : Nat) : Int)) := by
  have hl := h.len
  obtain ⟨b', o', e, _, hc⟩ := h.bts.at' j (by omega)
  injection e with e
  injection e with e1 e2
  subst e1 e2
  rw [hc]
  unfold at'
  rw [List.getElem?_eq_getElem (by omega)]
  rfl
theorem At64.keep {w w' : World} {b o : Nat} {l : List Nat} (h : At64 w b o l) (hb : Below w.heap.size w w') : At64 w' b o l := ⟨h.bts.keep hb, h.len, Nat.lt_of_lt_of_le h.lt hb.size⟩
theorem At64.byte {w : World} {b o : Nat} {l : List Nat} (h : At64 w b o l) (j : Nat) : at' l j < 256 := by
  unfold at'
  rcases Nat.lt_or_ge j l.length with h1 | h1
  · rw [List.getElem?_eq_getElem h1]
    exact h.bts.byt _ (List.getElem_mem _)
  · rw [List.getElem?_eq_none h1]
    decide
theorem at64 {w : World} {A : Option Addr} {l : List Nat} (h : Crc.Bts w A l) (hl : l.length = 64) : ∃ b o, A = some ⟨b, o, none⟩ ∧ At64 w b o l := by
  obtain ⟨b, o, rfl, hlt, _⟩ := h.at' 0 (by omega)
  exact ⟨b, o, rfl, h, hl, hlt⟩
theorem At64.name {w : World} {b o : Nat} {l : List Nat} (h : At64 w b o l) : Crc.Bts w (some ⟨b, o + 4, none⟩) (name l) := by
  have hl := h.len
  refine ⟨fun x hx => h.bts.byt x (List.mem_of_mem_drop (List.mem_of_mem_take hx)), ?_, fun j hj => ⟨b, o + 4, rfl, h.lt, ?_⟩⟩
  · unfold Ent.name
    rw [List.length_take, List.length_drop]
    omega
  · have hj' := hj
    unfold Ent.name at hj'
    rw [List.length_take, List.length_drop] at hj'
    have := h.cell (4 + j) (by omega)
    rw [← Nat.add_assoc] at this
    have e : (Ent.name l)[j] = l[4 + j]'(by omega) := by simp only [Ent.name, List.getElem_take, List.getElem_drop]
    rw [this, e]
    unfold at'
    rw [List.getElem?_eq_getElem (by omega)]
    rfl
theorem name_len {l : List Nat} (hl : l.length = 64) (h : at' l 2 ≤ 48) : (name l).length = at' l 2 := by
  unfold name
  rw [List.length_take, List.length_drop]
  unfold at' at h ⊢
  omega

set_option maxHeartbeats 1000000 in
theorem decode_name (w : World) (b o c : Nat) (l : List Nat) (h : At64 w b o l) (hn : ¬ at' l 2 ≤ 48) :
    Calls Try.prog 15 #[.slice (some ⟨b, o, none⟩) 64 c] w fun r w' => r = .returned (.tuple #[gv none, .int .i64 (ev none)]) ∧ Below w.heap.size w w' := by
  have hb := h.byte 2
  have hc := h.cell 2 (by omega)
  have hlt := h.lt
  have hn' : (48 : Int) < (at' l 2 : Nat) := by omega
  clear h
  go_enter Try.func15, Try.ntmps15
  go_wp2
  refine bodyPost_ret (v := .tuple #[gv none, .int .i64 (ev none)]) ?_ rfl ⟨rfl, ?_⟩
  · simp [results, Try.results15, go_sem, gv, ev]
  · first
    | exact (Below.refl _ _).alloc (Nat.le_refl _) _
    | exact (((Below.refl _ _).alloc (Nat.le_refl _) _).setCell (by simp) _).setCell (by simp) _

theorem i64_or_nat (a b : Nat) (ha : a < 256) (hb : b < 256) : bits .or .i64 (a : Int) ((b : Int) * 256) = ((a + 256 * b : Nat) : Int) := by
  have hx : a ||| b * 256 = a + 256 * b := by
    have := Nat.shiftLeft_add_eq_or_of_lt (b := a) (i := 8) (show a < 2 ^ 8 from ha) b
    rw [Nat.shiftLeft_eq, show (2 : Nat) ^ 8 = 256 from rfl] at this
    rw [Nat.or_comm]
    omega
  show IntKind.i64.wrap ((BitVec.ofInt 64 (a : Int) ||| BitVec.ofInt 64 ((b : Int) * 256)).toNat : Int) = _
  have e : (b : Int) * 256 = ((b * 256 : Nat) : Int) := by omega
  rw [e, BitVec.toNat_or, ofInt_u64 a (by omega), ofInt_u64 (b * 256) (by omega), hx, IntKind.wrap_i64]
  omega

theorem str_beq {l m : List Nat} (hl : Crc.Byt l) (hm : Crc.Byt m) : ((Crc.str l).toList == (Crc.str m).toList) = decide (l = m) := by
  by_cases h : l = m
  · subst h
    simp
  · rw [decide_eq_false h]
    refine beq_false_of_ne (fun e => h ?_)
    have h1 := Crc.tx_str hl
    have h2 := Crc.tx_str hm
    rw [tx_toList] at h1 h2
    rw [← h1, ← h2, e]

theorem equal_any (w : World) (A B : Option Addr) (c d n m : Nat) (l k : List Nat) (hl : Crc.Bts w A l) (hk : Crc.Bts w B k) (en : n = l.length) (em : m = k.length) :
    Calls Try.prog 26 #[.slice A n c, .slice B m d] w fun r w' => r = .returned (.bool (decide (l = k))) ∧ w = w' := by
  have h1 := Crc.conv_str c hl
  have h2 := Crc.conv_str d hk
  rw [← en] at h1
  rw [← em] at h2
  have HE := Lib.hid (str_beq hl.byt hk.byt)
  clear hl hk en em
  generalize Crc.str l = S at *
  generalize Crc.str k = T at *
  go_enter Try.func26, Try.ntmps26
  go_wp2
  go_ret
  exact ⟨by rw [← HE.out]; rfl, rfl⟩

theorem row_enc {W : World} {g : Nat} {l : List Nat} (h : Row W g (at' l)) (hl : l.length = 64) (hb : Crc.Byt l) : Crc.Bts W (some ⟨g, 0, none⟩) l :=
  h.bts 0 l hb (by omega) (fun j hj => by
    rw [Nat.zero_add]
    unfold at'
    rw [List.getElem?_eq_getElem hj]
    rfl)

set_option maxHeartbeats 2000000 in
set_option maxRecDepth 100000 in
theorem decode_core (w : World) (b o c : Nat) (l : List Nat) (h : At64 w b o l) (hc : 64 ≤ c) (n x0 x1 : Nat) (hn : at' l 2 = n) (hx0 : at' l 0 = x0) (hx1 : at' l 1 = x1) (hn48 : n ≤ 48) :
    Calls Try.prog 15 #[.slice (some ⟨b, o, none⟩) 64 c] w fun r w' => r = .returned (.tuple #[gv (dec l), .int .i64 (ev (dec l))]) ∧ Below w.heap.size w w' := by
  have hlt := h.lt
  have HX := Lib.hid (owned w ⟨#[]⟩ 0 23)
  have HB := Lib.hid ((Below.refl w.heap.size w).alloc (Nat.le_refl _) (.cells #[.string ⟨#[]⟩, .int .i64 0] 23))
  have HA := Lib.hid (h.keep HB.out)
  have hb0 : x0 < 256 := by rw [← hx0]; exact h.byte 0
  have hb1 : x1 < 256 := by rw [← hx1]; exact h.byte 1
  have hcl0 := h.cell 0 (by omega)
  rw [Nat.add_zero] at hcl0
  have hcl1 := h.cell 1 (by omega)
  have hcl2 := h.cell 2 (by omega)
  have hnl := name_len h.len (by rw [hn]; exact hn48)
  rw [hn] at hcl2 hnl
  rw [hx0] at hcl0
  rw [hx1] at hcl1
  have HNL := Lib.hid hnl
  have HN := Lib.hid hn
  have HX0 := Lib.hid hx0
  have HX1 := Lib.hid hx1
  clear h hn hx0 hx1 hnl
  have hno : ¬ (48 : Int) < (n : Int) := by omega
  go_enter Try.func15, Try.ntmps15
  go_wp2
  clear hcl0 hcl1 hcl2
  have hba := fun W : World => (Below.refl W.heap.size W).alloc (Nat.le_refl _) (.cells #[.string ⟨#[]⟩, .int .i64 0] 23)
  have HCV := Lib.hid (fun (W : World) (hW : At64 W b o l) => show (convert 29 9 (.slice (some ⟨b, o + 4, none⟩) n (c - 4))).run Try.prog W = .ok (.string (Crc.str (name l))) W by
    have := Crc.conv_str (c - 4) hW.name
    rwa [HNL.out] at this)
  have hz1 : w.heap.size < (w.alloc (.cells #[.string ⟨#[]⟩, .int .i64 0] 23)).heap.size := HX.out.box.lt
  generalize w.alloc (.cells #[.string ⟨#[]⟩, .int .i64 0] 23) = w1 at *
  have hv1 := HCV.out _ (HA.out.keep (Below.refl _ w1).drew)
  have hv2 := HCV.out _ (HA.out.keep ((hba w1).drew))
  have hcl0 := HA.out.cell 0 (by omega)
  rw [Nat.add_zero, HX0.out] at hcl0
  have hcl1 := HA.out.cell 1 (by omega)
  rw [HX1.out] at hcl1
  have hs1 : IntKind.wrap .i64 (x0 : Int) = (x0 : Int) := by rw [IntKind.wrap_i64]; omega
  have hs2 : IntKind.wrap .i64 (x1 : Int) = (x1 : Int) := by rw [IntKind.wrap_i64]; omega
  have hs3 : IntKind.wrap .i64 ((x1 : Int) * 256) = (x1 : Int) * 256 := by rw [IntKind.wrap_i64]; omega
  have hor := i64_or_nat x0 x1 hb0 hb1
  have hlb : b < w1.heap.size := HA.out.lt
  clear hba
  have HK := Lib.hid (show num l = x0 + 256 * x1 by rw [← HX0.out, ← HX1.out]; rfl)
  have HTX := Lib.hid (Crc.tx_str HA.out.name.byt)
  have HTT := Lib.hid (show Crc.str (name l) = Crc.str (name l) from rfl)
  generalize x0 + 256 * x1 = k at *
  have HZ := Lib.hid (show (Crc.str (name l)).size ≤ 9223372036854775807 by rw [Crc.str_size, HNL.out]; omega)
  have HLL := Lib.hid HA.out.len
  generalize Crc.str (name l) = T at HZ HTX hv1 hv2 HCV HTT
  go_region
  all_goals
    (have hba := (Below.refl w1.heap.size w1).alloc (Nat.le_refl _) (.cells #[.string T, .int .i64 (k : Int)] 23)
     have HX2 := Lib.hid (HX.out.keep hba).drew
     have HG2 := Lib.hid (boxed w1 T k 23).drew
     have HB2 := Lib.hid (HB.out.trans (hba.mono HB.out.size)).drew
     have HA2 := Lib.hid (HA.out.keep hba.drew)
     clear hba hv1 hv2 hcl0 hcl1 hs1 hs2 hs3 hor HX HB HA HCV
     go_wp2_with fail
     generalize (w1.alloc (.cells #[.string T, .int .i64 (k : Int)] 23)).drew = w2 at *
     generalize w1.heap.size = k1 at *
     cases hmay : may (name l) (k : Int) with
     | false =>
       have HNO := Lib.hid (show dec l = none by
         unfold dec
         rw [HK.out, hmay]
         exact if_neg (fun e => by simp at e))
       refine (encode_no _ T k HZ.out (by rw [HTX.out]; exact hmay)).mono ?_
       rintro e w3 ⟨rfl, hb3⟩
       have HX3 := Lib.hid (HX2.out.keep hb3)
       have HB3 := Lib.hid (HB2.out.trans (hb3.mono HB2.out.size))
       have hc0 := HX3.out.box.c0
       have hc1 := HX3.out.box.c1
       have hf0 := HX3.out.f 0
       have hf1 := HX3.out.f 1
       clear hb3 hmay HX2 HB2 HG2 HA2
       go_wp2
       rw [HNO.out]
       refine bodyPost_ret (v := .tuple #[gv none, .int .i64 (ev none)]) ?_ rfl ⟨rfl, ?_⟩
       · simp [results, Try.results15, go_sem, gv, ev, hc0, hc1]
       · exact (HB3.out.setCell (Nat.le_refl _) _).setCell (Nat.le_refl _) _
     | true =>
       refine (encode_yes _ T k (by rw [HTX.out]; exact hmay)).mono ?_
       rintro e w3 ⟨g, hg, rfl, hr, hb3⟩
       rw [HTX.out] at hr
       have hnl := may_len hmay
       have HA3 := Lib.hid (HA2.out.keep hb3)
       have HQ := Lib.hid (equal_any w3 (some ⟨b, o, none⟩) (some ⟨g, 0, none⟩) c 64 64 64 l (enc (name l) k) HA3.out.bts (row_enc hr (enc_len hnl k) (enc_byt HA3.out.name.byt hnl k)) HA3.out.len.symm (enc_len hnl k).symm)
       have HX3 := Lib.hid (HX2.out.keep hb3)
       have HG3 := Lib.hid (HG2.out.keep hb3)
       have HB3 := Lib.hid (HB2.out.trans (hb3.mono HB2.out.size))
       have hc0 := HX3.out.box.c0
       have hc1 := HX3.out.box.c1
       have hf0 := HX3.out.f 0
       have hf1 := HX3.out.f 1
       have hg0 := HG3.out.c0
       have hg1 := HG3.out.c1
       have HM := Lib.hid hmay
       clear hb3 hmay HX2 HB2 HG2 hr hnl
       go_wp2_with fail
       refine HQ.out.mono ?_
       rintro e w' ⟨rfl, rfl⟩
       by_cases hls : l = enc (name l) k
       · have HNO := Lib.hid (show dec l = some (name l, k) by
           unfold dec
           rw [HK.out]
           exact if_pos ⟨HA3.out.len, by have := HN.out; unfold at' at this; omega, HM.out, hls⟩)
         have HTE := Lib.hid (show T = Crc.str (name l) by rw [← HTX.out, str_tx])
         rw [decide_eq_true hls]
         clear hls HQ
         go_wp2
         rw [HNO.out]
         refine bodyPost_ret (v := .tuple #[gv (some (name l, k)), .int .i64 (ev (some (name l, k)))]) ?_ rfl ⟨rfl, ?_⟩
         · simp [results, Try.results15, go_sem, gv, ev, hc0, hc1, HTE.out]
         · exact (HB3.out.setCell (Nat.le_refl _) _).setCell (Nat.le_refl _) _
       · have HNO := Lib.hid (show dec l = none by
           unfold dec
           rw [HK.out]
           exact if_neg (fun e => hls e.2.2.2))
         rw [decide_eq_false hls]
         clear hls HQ
         go_wp2
         rw [HNO.out]
         refine bodyPost_ret (v := .tuple #[gv none, .int .i64 (ev none)]) ?_ rfl ⟨rfl, ?_⟩
         · simp [results, Try.results15, go_sem, gv, ev, hc0, hc1]
         · exact (HB3.out.setCell (Nat.le_refl _) _).setCell (Nat.le_refl _) _)

theorem decode_any (w : World) (A : Option Addr) (c n : Nat) (l : List Nat) (h : Crc.Bts w A l) (hn : n = l.length) (hc : n ≤ c) :
    Calls Try.prog 15 #[.slice A n c] w fun r w' => r = .returned (.tuple #[gv (dec l), .int .i64 (ev (dec l))]) ∧ Below w.heap.size w w' := by
  by_cases h64 : l.length = 64
  · obtain ⟨b, o, rfl, ha⟩ := at64 h h64
    rw [h64] at hn
    subst hn
    by_cases h48 : at' l 2 ≤ 48
    · exact decode_core w b o c l ha hc _ _ _ rfl rfl rfl h48
    · rw [dec_name h48]
      exact decode_name w b o c l ha h48
  · rw [dec_len h64]
    exact decode_len w A n c (by omega)
end Ent
end Go.Proofs.Ytdgbpnchkgdmmaa
