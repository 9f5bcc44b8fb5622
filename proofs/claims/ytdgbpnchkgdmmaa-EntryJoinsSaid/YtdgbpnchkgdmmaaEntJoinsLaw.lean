/- EntryJoins, walked. -/
import Derived.Test.YtdgbpnchkgdmmaaEntAllLaw
namespace Go.Proofs.Ytdgbpnchkgdmmaa
open Go.RowKit Go.MapKept
namespace Ent

section
variable {w : World}
set_option maxHeartbeats 1000000 in
theorem joins_long (A : Option Addr) (c : Nat) (l : List En) (h : Es w A l) (hf : few l = false) :
    Calls Try.prog 6 #[.slice A l.length c] w fun r w' => r = .returned (.bool true) ∧ Below w.heap.size w w' := by
  have HL := Lib.hid lives_any
  have H := Lib.hid h
  have HF := Lib.hid hf
  clear h hf
  go_enter Try.func6, Try.ntmps6
  go_wp2_with fail
  refine (HL.out _).mono ?_
  rintro e w1 ⟨rfl, hb⟩
  have HB := Lib.hid hb
  have H1 := Lib.hid (H.out.keep hb)
  clear hb
  go_wp2_with fail
  refine (few_any w1 A c l.length l H1.out rfl).mono ?_
  rintro e w2 ⟨rfl, hb⟩
  rw [HF.out]
  have HB2 := Lib.hid (HB.out.trans (hb.mono HB.out.size))
  clear hb
  go_wp2_with fail
  refine (HL.out _).mono ?_
  rintro e w3 ⟨rfl, hb⟩
  have HB3 := Lib.hid (HB2.out.trans (hb.mono HB2.out.size))
  clear hb
  go_wp2
  go_ret
  exact ⟨rfl, HB3.out⟩

set_option maxHeartbeats 2000000 in
set_option maxRecDepth 100000 in
theorem joins_core (A : Option Addr) (c : Nat) (l : List En) (h : Es w A l) (hf : few l = true) :
    Calls Try.prog 6 #[.slice A l.length c] w fun r w' => r = .returned (.bool true) ∧ Below w.heap.size w w' := by
  have HL := Lib.hid lives_any
  have H := Lib.hid h
  have HF := Lib.hid hf
  have h40 : l.length ≤ 40 := (of_decide_eq_true hf : Few l).2
  have HSZ := Lib.hid h.size
  clear h hf
  go_enter Try.func6, Try.ntmps6
  go_wp2_with fail
  refine (HL.out _).mono ?_
  rintro e w1 ⟨rfl, hb⟩
  have HB1 := Lib.hid hb
  have H1 := Lib.hid (H.out.keep hb)
  clear hb H
  go_wp2_with fail
  refine (few_any w1 A c l.length l H1.out rfl).mono ?_
  rintro e w2 ⟨rfl, hb⟩
  rw [HF.out]
  have HB2 := Lib.hid (HB1.out.trans (hb.mono HB1.out.size))
  have H2 := Lib.hid (H1.out.keep hb)
  clear hb H1 HB1
  go_wp2_with fail
  refine (refs_any w2 A c l H2.out (by omega)).mono ?_
  rintro e w3 ⟨G, gc, rfl, hg, hb⟩
  have HB3 := Lib.hid (HB2.out.trans (hb.mono HB2.out.size))
  have H3 := Lib.hid (H2.out.keep hb)
  have HG := Lib.hid hg
  clear hb hg H2 HB2
  go_wp2_with fail
  refine (refTwice_any w3 G gc l.length l HG.out rfl).mono ?_
  rintro e w4 ⟨rfl, hb⟩
  have HB4 := Lib.hid (HB3.out.trans (hb.mono HB3.out.size))
  have H4 := Lib.hid (H3.out.keep hb)
  clear hb H3 HB3 HG
  obtain ⟨tw, htw⟩ : ∃ tw, twice (nms l) = tw := ⟨_, rfl⟩
  rw [htw]
  have HTW := Lib.hid htw
  clear htw
  go_wp2_with fail
  refine (refs_any w4 A c l H4.out (by omega)).mono ?_
  rintro e w5 ⟨K, kc, rfl, hk, hb⟩
  have HB5 := Lib.hid (HB4.out.trans (hb.mono HB4.out.size))
  have H5 := Lib.hid (H4.out.keep hb)
  have HK := Lib.hid hk
  clear hb hk H4 HB4
  go_wp2
  go_loopw [3, 4, 27] (fun u y i wr => ∃ (m : Nat) (S : ByteArray), m ≤ l.length ∧ i = .int .i64 (m : Int) ∧ u = .string S ∧ S.size = 64 * m ∧ Crc.tx S = ebs (l.take m) ∧ y = .bool (!tw) ∧ (∀ e ∈ l.take m, mayE e = true) ∧ Below w5.heap.size w5 wr) (fun _ _ i _ => l.length - (intOf i).toNat)
  case atStart => exact ⟨0, ⟨#[]⟩, Nat.zero_le _, rfl, rfl, rfl, rfl, rfl, fun e he => by simp at he, Below.refl _ _⟩
  case round =>
    obtain ⟨m, S, hm, rfl, rfl, hS, hT, rfl, hmy, hb⟩ := hrel
    have HS := Lib.hid hS
    have HT := Lib.hid hT
    have HMY := Lib.hid hmy
    have HB := Lib.hid hb
    have hS1 : S.size ≤ 2560 := by omega
    clear hS hT hmy
    by_cases hlt : m < l.length
    · obtain ⟨b, o, rfl, hbb, hc0, hc1⟩ := HK.out.at' m hlt
      have hc0 := (hb.cell (p := ⟨b, o + m * 2, none⟩) hbb).trans hc0
      have hc1 := (hb.cell (p := ⟨b, o + m * 2 + 1, none⟩) hbb).trans hc1
      have hs := HSZ.out _ (List.getElem_mem hlt)
      have HR := Lib.hid (ebs_take hlt)
      have HTK := Lib.hid (show l.take (m + 1) = l.take m ++ [l[m]] from List.take_succ_eq_append_getElem hlt)
      have HMEM := Lib.hid (List.getElem_mem hlt)
      clear hb
      generalize l[m] = e at *
      obtain ⟨s, i⟩ := e
      simp only at hc0 hc1 hs
      have hba := HB.out.alloc HB.out.size (.cells #[.string s, .int .i64 i] 28)
      have HX := Lib.hid (boxed wr s i 28)
      have HBA := Lib.hid hba
      clear hba
      go_wp2_with fail
      refine (refMay_any _ s i hs).mono ?_
      rintro e w6 ⟨rfl, hb6⟩
      have HB6 := Lib.hid (HBA.out.trans (hb6.mono HBA.out.size))
      have HX6 := Lib.hid (HX.out.keep hb6)
      clear hb6 HX HBA
      cases hme : may (Crc.tx s) i with
      | false =>
        have HBAD := Lib.hid (show ∃ e ∈ l, mayE e = false from ⟨_, HMEM.out, hme⟩)
        have HB7 := Lib.hid (HB5.out.trans (HB6.out.mono HB5.out.size))
        have H7 := Lib.hid (H5.out.keep HB6.out)
        have HJ := Lib.hid (join_none w6 A c l H7.out (by omega) (.inr HBAD.out))
        clear hme
        go_wp2_with fail
        refine HJ.out.mono ?_
        rintro e w8 ⟨rfl, hb8⟩
        have HB8 := Lib.hid (HB7.out.trans (hb8.mono HB7.out.size))
        clear hb8
        go_wp2
        go_ret
        exact ⟨rfl, HB8.out⟩
      | true =>
        obtain ⟨k, rfl, hk⟩ := may_nat hme
        have HME := Lib.hid (show mayE (s, (k : Int)) = true from hme)
        have HEN := Lib.hid (fun w => refEncode_any w s k hme)
        have hen := enc_len (may_len hme) k
        have hz : (Crc.str (enc (Crc.tx s) k)).size ≤ 64 := by rw [Crc.str_size, hen]; exact Nat.le_refl _
        have HZ := Lib.hid (show (Crc.str (enc (Crc.tx s) k)).size = 64 by rw [Crc.str_size, hen])
        have HX2 := Lib.hid (show Crc.tx (S ++ Crc.str (enc (Crc.tx s) k)) = ebs (l.take (m + 1)) by
          rw [tx_append, HT.out, HR.out, Crc.tx_str (enc_byt (Crc.tx_byt s) (may_len hme) k)]
          rfl)
        have hg0 := HX6.out.c0
        have hg1 := HX6.out.c1
        clear hen hme
        generalize Crc.str (enc (Crc.tx s) k) = Z at *
        go_wp2_with fail
        refine (HEN.out _).mono ?_
        rintro e w7 ⟨rfl, hb7⟩
        have HB7 := Lib.hid (HB6.out.trans (hb7.mono HB6.out.size))
        clear hb7 hg0 hg1 HX6
        go_wp2
        refine ⟨⟨m + 1, S ++ Z, by omega, by go_num, rfl, ?_, HX2.out, rfl, ?_, HB7.out⟩, by simp [intOf]; omega⟩
        · rw [ByteArray.size_append, HS.out, HZ.out]
          omega
        · rw [HTK.out]
          intro e he
          rcases List.mem_append.1 he with h1 | h1
          · exact HMY.out e h1
          · obtain rfl : e = (s, (k : Int)) := by simpa using h1
            exact HME.out
    · obtain rfl : m = l.length := by omega
      rw [List.take_length] at HMY HT
      have H6 := Lib.hid (H5.out.keep HB.out)
      have HB6 := Lib.hid (HB5.out.trans (HB.out.mono HB5.out.size))
      clear hb hlt
      cases tw with
      | true =>
        have HJ := Lib.hid (join_none wr A c l H6.out (by omega) (.inl HTW.out))
        go_wp2_with fail
        refine HJ.out.mono ?_
        rintro e w8 ⟨rfl, hb8⟩
        have HB8 := Lib.hid (HB6.out.trans (hb8.mono HB6.out.size))
        clear hb8
        go_wp2
        go_ret
        exact ⟨rfl, HB8.out⟩
      | false =>
        have hnd : (nms l).Nodup := by
          have := HTW.out
          unfold twice at this
          simpa using this
        have HJ := Lib.hid (join_some wr A c l H6.out (by omega) hnd HMY.out)
        have HAL := Lib.hid (alls_some (joins_all HMY.out hnd))
        have HEB := Lib.hid (ens_back HMY.out)
        have HBL := Lib.hid (back_len l)
        have HEL := Lib.hid (ebs_len HMY.out)
        clear hnd
        go_wp2_with fail
        refine HJ.out.mono ?_
        rintro e w8 ⟨O, oc, rfl, hoc, hob, hb8⟩
        have HB8 := Lib.hid (HB6.out.trans (hb8.mono HB6.out.size))
        have H8 := Lib.hid (H6.out.keep hb8)
        have HO8 := Lib.hid hob
        have hal := all_is_some w8 O (64 * l.length) oc (ebs l) hob HEL.out.symm hoc (by omega) HAL.out
        rw [HEB.out, HBL.out] at hal
        have HALL := Lib.hid hal
        clear hb8 hoc hob hal HJ
        go_wp2_with fail
        refine HALL.out.mono ?_
        rintro e w9 ⟨Q, qc, rfl, hq, hb9⟩
        have HB9 := Lib.hid (HB8.out.trans (hb9.mono HB8.out.size))
        have H9 := Lib.hid (H8.out.keep hb9)
        have HQ := Lib.hid hq
        have hcv := Crc.conv_str oc (HO8.out.keep hb9)
        rw [HEL.out] at hcv
        have hst : Crc.str (ebs l) = S := by rw [← HT.out, str_tx]
        rw [hst] at hcv
        clear hb9 hq HALL hst
        go_wp2
        go_loopw [79] (fun i wr => ∃ m : Nat, m ≤ l.length ∧ i = .int .i64 (m : Int) ∧ Below w9.heap.size w9 wr) (fun i _ => l.length - (intOf i).toNat)
        case atStart => exact ⟨0, Nat.zero_le _, rfl, Below.refl _ _⟩
        case round =>
          obtain ⟨q, hq, rfl, hb⟩ := hrel
          clear hcv
          by_cases hql : q < l.length
          · obtain ⟨b, o, rfl, hbb, hc0, hc1⟩ := H9.out.at' q hql
            obtain ⟨b', o', rfl, hbb', hd0, hd1⟩ := HQ.out.at' q hql
            have hc0 := (hb.cell (p := ⟨b, o + q * 2, none⟩) hbb).trans hc0
            have hc1 := (hb.cell (p := ⟨b, o + q * 2 + 1, none⟩) hbb).trans hc1
            have hd0 := (hb.cell (p := ⟨b', o' + q * 2, none⟩) hbb').trans hd0
            have hd1 := (hb.cell (p := ⟨b', o' + q * 2 + 1, none⟩) hbb').trans hd1
            have HBD := Lib.hid hb.drew
            clear hb
            generalize l[q] = e at *
            obtain ⟨s, i⟩ := e
            simp only at hc0 hc1 hd0 hd1
            go_wp2
            go_region
            all_goals go_wp2
            all_goals exact ⟨⟨q + 1, by omega, by go_num, HBD.out⟩, by simp [intOf]; omega⟩
          · obtain rfl : q = l.length := by omega
            have HBE := Lib.hid (HB9.out.trans (hb.mono HB9.out.size))
            clear hb hql
            go_wp2
            go_ret
            exact ⟨rfl, HBE.out⟩

theorem joins_any (A : Option Addr) (c : Nat) (l : List En) (h : Es w A l) :
    Calls Try.prog 6 #[.slice A l.length c] w fun r w' => r = .returned (.bool true) ∧ Below w.heap.size w w' := by
  cases hf : few l with
  | false => exact joins_long A c l h hf
  | true => exact joins_core A c l h hf
end
end Ent
end Go.Proofs.Ytdgbpnchkgdmmaa
