/- The chapter's example; entries as they lie; whether they are few. -/
import Derived.Test.YtdgbpnchkgdmmaaEntRefDec
namespace Go.Proofs.Ytdgbpnchkgdmmaa
open Go.RowKit Go.MapKept
namespace Ent

theorem may_ex : may (Crc.tx ⟨#[97, 98]⟩) ((258 : Nat) : Int) = true := by decide +kernel
theorem seven_ex : (enc (Crc.tx ⟨#[97, 98]⟩) 258).take 7 = [2, 1, 2, 0, 97, 98, 0] := by decide +kernel
theorem str_ex : (Crc.str [2, 1, 2, 0, 97, 98, 0]) = ⟨#[2, 1, 2, 0, 97, 98, 0]⟩ := rfl

theorem row_part {W : World} {g : Nat} {l : List Nat} (h : Row W g (at' l)) (hl : l.length = 64) (hb : Crc.Byt l) (n : Nat) : Crc.Bts W (some ⟨g, 0, none⟩) (l.take n) :=
  h.bts 0 (l.take n) (hb.take n) (by rw [List.length_take]; omega) (fun j hj => by
    rw [List.length_take] at hj
    rw [Nat.zero_add, List.getElem_take]
    unfold at'
    rw [List.getElem?_eq_getElem (by omega)]
    rfl)

set_option maxHeartbeats 1000000 in
theorem lives_any (w : World) : Calls Try.prog 8 #[] w fun r w' => r = .returned (.bool true) ∧ Below w.heap.size w w' := by
  have HE := Lib.hid (encode_yes w ⟨#[97, 98]⟩ 258 may_ex)
  have HC := Lib.hid Crc.lives_any
  have H48 := Lib.hid (may_len may_ex)
  rw [show ((258 : Nat) : Int) = 258 from rfl] at HE
  go_enter Try.func8, Try.ntmps8
  go_wp2_with fail
  refine HE.out.mono ?_
  rintro e w1 ⟨g, hg, rfl, hr, hb⟩
  have HR := Lib.hid hr
  have HB := Lib.hid hb
  clear hr hb hg
  go_wp2_with fail
  refine (HC.out _).mono ?_
  rintro e w2 ⟨rfl, hb2⟩
  have HB2 := Lib.hid (HB.out.trans (hb2.mono HB.out.size))
  have hcv := Crc.conv_str 64 (row_part (HR.out.keep hb2) (enc_len H48.out 258) (enc_byt (Crc.tx_byt _) H48.out 258) 7)
  rw [seven_ex, str_ex] at hcv
  rw [show ([2, 1, 2, 0, 97, 98, 0] : List Nat).length = 7 from rfl] at hcv
  clear hb2 HB HR HE
  go_wp2
  go_ret
  exact ⟨rfl, HB2.out⟩

/-- an entry's name and number -/
abbrev En := ByteArray × Int

/-- these entries lie at A -/
structure Es (w : World) (A : Option Addr) (l : List En) : Prop where
  size : ∀ e ∈ l, e.1.size ≤ 9223372036854775807
  len : l.length ≤ 9223372036854775807
  at' : ∀ j (h : j < l.length), ∃ b o, A = some ⟨b, o, none⟩ ∧ b < w.heap.size ∧ w.cell? ⟨b, o + j * 2, none⟩ = some (.string l[j].1) ∧ w.cell? ⟨b, o + j * 2 + 1, none⟩ = some (.int .i64 l[j].2)
theorem Es.keep {w w' : World} {A : Option Addr} {l : List En} (h : Es w A l) (hb : Below w.heap.size w w') : Es w' A l :=
  ⟨h.size, h.len, fun j hj => by
    obtain ⟨b, o, e, hlt, hc, hd⟩ := h.at' j hj
    exact ⟨b, o, e, Nat.lt_of_lt_of_le hlt hb.size, (hb.cell (p := ⟨b, o + j * 2, none⟩) hlt).trans hc, (hb.cell (p := ⟨b, o + j * 2 + 1, none⟩) hlt).trans hd⟩⟩
theorem Es.drew {w : World} {A : Option Addr} {l : List En} (h : Es w A l) : Es w.drew A l := h.keep (Below.refl _ _).drew
theorem es_one (w : World) (s : ByteArray) (i : Int) (t : TypeId) (hs : s.size ≤ 9223372036854775807) : Es (w.alloc (.cells #[.string s, .int .i64 i] t)) (some ⟨w.heap.size, 0, none⟩) [(s, i)] :=
  ⟨fun e he => by
    obtain rfl : e = (s, i) := by simpa using he
    exact hs, by simp, fun j hj => by
    have : j < 1 := hj
    match j, this with
    | 0, _ => exact ⟨w.heap.size, 0, rfl, by simp, Crc.alloc_cell _ _ _ _, Crc.alloc_cell _ _ _ _⟩⟩

/-- few, and short -/
def Few (l : List En) : Prop := (∀ e ∈ l, e.1.size ≤ 100) ∧ l.length ≤ 40
instance (l : List En) : Decidable (Few l) := by unfold Few; infer_instance
def few (l : List En) : Bool := decide (Few l)

set_option maxHeartbeats 1000000 in
theorem few_any (w : World) (A : Option Addr) (c n : Nat) (l : List En) (h : Es w A l) (hn : n = l.length) :
    Calls Try.prog 9 #[.slice A n c] w fun r w' => r = .returned (.bool (few l)) ∧ Below w.heap.size w w' := by
  subst hn
  have hn := h.len
  have H := Lib.hid h
  clear h
  go_enter Try.func9, Try.ntmps9
  go_wp2
  go_loopw [7] (fun i wr => ∃ m : Nat, m ≤ l.length ∧ i = .int .i64 (m : Int) ∧ Below w.heap.size w wr ∧ ∀ e ∈ l.take m, e.1.size ≤ 100) (fun i _ => l.length - (intOf i).toNat)
  case atStart => exact ⟨0, Nat.zero_le _, rfl, Below.refl _ _, fun e he => by simp at he⟩
  case round =>
    obtain ⟨m, hm, rfl, hb, hg⟩ := hrel
    have HG := Lib.hid hg
    have HB := Lib.hid hb
    clear hg
    by_cases hlt : m < l.length
    · obtain ⟨b, o, rfl, hbb, hc0, hc1⟩ := H.out.at' m hlt
      have hc0 := (hb.cell (p := ⟨b, o + m * 2, none⟩) hbb).trans hc0
      have hc1 := (hb.cell (p := ⟨b, o + m * 2 + 1, none⟩) hbb).trans hc1
      have hs := H.out.size _ (List.getElem_mem hlt)
      have HT := Lib.hid (show l.take (m + 1) = l.take m ++ [l[m]] from List.take_succ_eq_append_getElem hlt)
      have HM := Lib.hid (List.getElem_mem hlt)
      clear hb
      generalize l[m] = e at *
      obtain ⟨s, i⟩ := e
      simp only at hc0 hc1 hs
      by_cases h100 : s.size ≤ 100
      · have HN := Lib.hid (HB.out.alloc HB.out.size (.cells #[.string s, .int .i64 i] 23))
        go_wp2
        refine ⟨⟨m + 1, by omega, by go_num, HN.out, ?_⟩, by simp [intOf]; omega⟩
        rw [HT.out]
        intro e he
        rcases List.mem_append.1 he with h1 | h1
        · exact HG.out e h1
        · obtain rfl : e = (s, i) := by simpa using h1
          exact h100
      · have HF := Lib.hid (show few l = false from decide_eq_false (fun h => h100 (h.1 _ HM.out)))
        have HN := Lib.hid (HB.out.alloc HB.out.size (.cells #[.string s, .int .i64 i] 23))
        go_wp2
        go_ret
        exact ⟨by rw [HF.out]; rfl, HN.out⟩
    · obtain rfl : m = l.length := by omega
      rw [List.take_length] at HG
      by_cases h40 : l.length ≤ 40
      · have HF := Lib.hid (show few l = true from decide_eq_true ⟨HG.out, h40⟩)
        have hd : decide ((l.length : Int) ≤ 40) = true := decide_eq_true (by omega)
        go_wp2
        go_ret
        exact ⟨by rw [HF.out, ← hd]; rfl, HB.out⟩
      · have HF := Lib.hid (show few l = false from decide_eq_false (fun h => h40 h.2))
        have hd : decide ((l.length : Int) ≤ 40) = false := decide_eq_false (by omega)
        go_wp2
        go_ret
        exact ⟨by rw [HF.out, ← hd]; rfl, HB.out⟩
end Ent
end Go.Proofs.Ytdgbpnchkgdmmaa
