/- The chapter's example; entries as they lie; whether they are few. -/
import Derived.Test.YtobffegkdoefnaaDoorEntRefDec
namespace Go.Proofs.YtobffegkdoefnaaDoor
open Go.RowKit Go.MapKept
namespace Ent

theorem may_ex : may (Crc.tx ⟨#[97, 98]⟩) ((258 : Nat) : Int) = true := by decide +kernel
theorem seven_ex : (enc (Crc.tx ⟨#[97, 98]⟩) 258).take 7 = [2, 1, 2, 0, 97, 98, 0] := by decide +kernel
theorem str_ex : (Crc.str [2, 1, 2, 0, 97, 98, 0]) = ⟨#[2, 1, 2, 0, 97, 98, 0]⟩ := rfl

theorem row_part {W : World} {g : Nat} {l : List Nat} (h : Row W g (at' l)) (hl : l.length = 64) (hb : Crc.Byt l) (n : Nat) : Crc.Bts W (some ⟨g, 0, none⟩) (l.take n) :=
  h.bts 0 (l.take n) (hb.take n) (by rw [List.length_take]; omega) (fun j hj => by
    rw [List.length_take] at hj
    rw [Nat.zero_add, List.getElem_take]
    unfold at'
    rw [List.getElem?_eq_getElem (by omega)]
    rfl)

set_option maxHeartbeats 1000000 in
theorem lives_any (w : World) : Calls Tryd.prog 18 #[] w fun r w' => r = .returned (.bool true) ∧ Below w.heap.size w w' := by
  have HE := Lib.hid (encode_yes w ⟨#[97, 98]⟩ 258 may_ex)
  have HC := Lib.hid Crc.lives_any
  have H48 := Lib.hid (may_len may_ex)
  rw [show ((258 : Nat) : Int) = 258 from rfl] at HE
  go_enter Tryd.func18, Tryd.ntmps18
  go_wp2_with fail
  refine HE.out.mono ?_
  rintro e w1 ⟨g, hg, rfl, hr, hb⟩
  have HR := Lib.hid hr
  have HB := Lib.hid hb
  clear hr hb hg
  go_wp2_with fail
  refine (HC.out _).mono ?_
  rintro e w2 ⟨rfl, hb2⟩
  have HB2 := Lib.hid (HB.out.trans (hb2.mono HB.out.size))
  have hcv := Crc.conv_str 64 (row_part (HR.out.keep hb2) (enc_len H48.out 258) (enc_byt (Crc.tx_byt _) H48.out 258) 7)
  rw [seven_ex, str_ex] at hcv
  rw [show ([2, 1, 2, 0, 97, 98, 0] : List Nat).length = 7 from rfl] at hcv
  clear hb2 HB HR HE
  go_wp2
  go_ret
  exact ⟨rfl, HB2.out⟩

/-- an entry's name and number -/
abbrev En := ByteArray × Int

/-- these entries lie at A -/
structure Es (w : World) (A : Option Addr) (l : List En) : Prop where
  size : ∀ e ∈ l, e.1.size ≤ 9223372036854775807
  len : l.length ≤ 9223372036854775807
  at' : ∀ j (h : j < l.length), ∃ b o, A = some ⟨b, o, none⟩ ∧ b < w.heap.size ∧ w.cell? ⟨b, o + j * 2, none⟩ = some (.string l[j].1) ∧ w.cell? ⟨b, o + j * 2 + 1, none⟩ = some (.int .i64 l[j].2)
theorem Es.keep {w w' : World} {A : Option Addr} {l : List En} (h : Es w A l) (hb : Below w.heap.size w w') : Es w' A l :=
  ⟨h.size, h.len, fun j hj => by
    obtain ⟨b, o, e, hlt, hc, hd⟩ := h.at' j hj
    exact ⟨b, o, e, Nat.lt_of_lt_of_le hlt hb.size, (hb.cell (p := ⟨b, o + j * 2, none⟩) hlt).trans hc, (hb.cell (p := ⟨b, o + j * 2 + 1, none⟩) hlt).trans hd⟩⟩
theorem Es.drew {w : World} {A : Option Addr} {l : List En} (h : Es w A l) : Es w.drew A l := h.keep (Below.refl _ _).drew
theorem es_one (w : World) (s : ByteArray) (i : Int) (t : TypeId) (hs : s.size ≤ 9223372036854775807) : Es (w.alloc (.cells #[.string s, .int .i64 i] t)) (some ⟨w.heap.size, 0, none⟩) [(s, i)] :=
  ⟨fun e he => by
    obtain rfl : e = (s, i) := by simpa using he
    exact hs, by simp, fun j hj => by
    have : j < 1 := hj
    match j, this with
    | 0, _ => exact ⟨w.heap.size, 0, rfl, by simp, Crc.alloc_cell _ _ _ _, Crc.alloc_cell _ _ _ _⟩⟩

/-- few, and short -/
def Few (l : List En) : Prop := (∀ e ∈ l, e.1.size ≤ 100) ∧ l.length ≤ 40
instance (l : List En) : Decidable (Few l) := by unfold Few; infer_instance
def few (l : List En) : Bool := decide (Few l)

end Ent
end Go.Proofs.YtobffegkdoefnaaDoor
