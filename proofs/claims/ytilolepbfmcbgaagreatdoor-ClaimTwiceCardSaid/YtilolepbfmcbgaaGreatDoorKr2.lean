/- Texts laid together: CrcRef, CrcWords, CrcText, CrcTurn, PackNum, PackText, PackWords, SupMath, SupEnc, SupEncode, SupEqual, SupDecode, SupRef, SupRefDec. -/
import Derived.Test.YtilolepbfmcbgaaGreatDoorKr1
import Derived.OwnWalk
import Derived.Test.YtilolepbfmcbgaaGreatDoorKa1
import Derived.Laws.IdiomStrings
import Derived.Laws.BytesArg
import Derived.Laws.MakeOwn
import Derived.RegionTactic
import Derived.ChangeAlike
import Derived.ArgAppend
import Derived.Test.YtilolepbfmcbgaaGreatDoorKa2
import Derived.Test.YtilolepbfmcbgaaGreatDoorKa3
/- The document's sums of a text. -/
namespace Go.Proofs.YtilolepbfmcbgaaGreatDoor
open Go.RowKit Go.MapKept
namespace Crc

/-- a text's bytes -/
def tx (s : ByteArray) : List Nat := s.data.toList.map UInt8.toNat

theorem tx_len (s : ByteArray) : (tx s).length = s.size := by
  unfold tx
  rw [List.length_map, Array.length_toList]
  rfl
theorem tx_byt (s : ByteArray) : Byt (tx s) := by
  intro b hb
  obtain ⟨x, _, rfl⟩ := List.mem_map.1 hb
  exact x.toNat_lt
theorem tx_get {s : ByteArray} {i : Nat} (h : i < s.size) : (tx s)[i]?.getD 0 = (s[i]'h).toNat := by
  have h' : i < s.data.toList.length := by rw [Array.length_toList]; exact h
  simp only [tx, List.getElem?_map, List.getElem?_eq_getElem h', Option.map_some, Option.getD_some]
  rfl

theorem bit_div (x i : Nat) : x / 2 ^ i % 2 = (x.testBit i).toNat := by
  rw [Nat.testBit_eq_decide_div_mod_eq]
  rcases Nat.mod_two_eq_zero_or_one (x / 2 ^ i) with h | h <;> simp [h]

theorem A_bit (p x e : Nat) (he : e < 2) : A p (x ^^^ e) = if e = x % 2 then x / 2 else x / 2 ^^^ p := by
  unfold A
  rw [half_xor, odd_xor, Nat.div_eq_of_lt he, Nat.xor_zero]
  have := Nat.mod_lt x (show 0 < 2 by omega)
  by_cases h : e = x % 2
  · have : ¬ (x % 2 + e % 2) % 2 = 1 := by omega
    rw [if_pos h, if_neg this, Nat.xor_zero]
  · have : (x % 2 + e % 2) % 2 = 1 := by omega
    rw [if_neg h, if_pos this]

/-- the bit that is taken next -/
def bit (l : List Nat) (m : Nat) : Nat := le l / 2 ^ m % 2
theorem bit_lt (l : List Nat) (m : Nat) : bit l m < 2 := Nat.mod_lt _ (by omega)
theorem ser_step (p r : Nat) (l : List Nat) (m : Nat) : ser p r (le l) (m + 1) = if bit l m = ser p r (le l) m % 2 then ser p r (le l) m / 2 else ser p r (le l) m / 2 ^^^ p := A_bit p _ _ (bit_lt l m)

theorem ser32_lt (l : List Nat) (m : Nat) : ser P32 4294967295 (le l) m < 4294967296 := by
  induction m with
  | zero => show 4294967295 < _; omega
  | succ m ih =>
    rw [ser_step]
    split
    · omega
    · exact Nat.xor_lt_two_pow (n := 32) (by omega) (by decide)
theorem ser16_lt (l : List Nat) (m : Nat) : ser P16 65535 (le l) m < 65536 := by
  induction m with
  | zero => show 65535 < _; omega
  | succ m ih =>
    rw [ser_step]
    split
    · omega
    · exact Nat.xor_lt_two_pow (n := 16) (by omega) (by decide)

theorem bit32 {s : ByteArray} {m : Nat} (h : m / 8 < s.size) : bits .and .u32 (((s[m / 8]'h).toNat : Int) / 2 ^ (m % 8) % 4294967296) 1 = ((bit (tx s) m : Nat) : Int) := by
  have h1 : (((s[m / 8]'h).toNat : Int) / 2 ^ (m % 8) % 4294967296) = (((s[m / 8]'h).toNat / 2 ^ (m % 8) % 4294967296 : Nat) : Int) := by simp
  rw [h1]
  have h2 := u32_and_nat ((s[m / 8]'h).toNat / 2 ^ (m % 8) % 4294967296) 1 (by omega) (by omega)
  rw [nat_mask1] at h2
  refine h2.trans ?_
  unfold bit
  rw [bit_div, bit_le _ _ (tx_byt s) (by rw [tx_len]; omega), tx_get h, ← bit_div]
  omega

theorem bit16 {s : ByteArray} {m : Nat} (h : m / 8 < s.size) : bits .and .u16 (((s[m / 8]'h).toNat : Int) / 2 ^ (7 - m % 8) % 65536) 1 = ((bit ((tx s).map (rev 8)) m : Nat) : Int) := by
  have h1 : (((s[m / 8]'h).toNat : Int) / 2 ^ (7 - m % 8) % 65536) = (((s[m / 8]'h).toNat / 2 ^ (7 - m % 8) % 65536 : Nat) : Int) := by simp
  rw [h1]
  have h2 := u16_and_nat ((s[m / 8]'h).toNat / 2 ^ (7 - m % 8) % 65536) 1 (by omega) (by omega)
  rw [nat_mask1] at h2
  refine h2.trans ?_
  unfold bit
  have hl : m / 8 < (tx s).length := by rw [tx_len]; exact h
  have e : (((tx s).map (rev 8))[m / 8]?.getD 0) = rev 8 (s[m / 8]'h).toNat := by
    rw [← tx_get h, List.getElem?_map, List.getElem?_eq_getElem hl]
    rfl
  rw [bit_div, bit_le _ _ (Byt.rev8 _) (by rw [List.length_map, tx_len]; omega), e, bit_rev]
  have h8 : m % 8 < 8 := by omega
  simp only [h8, decide_true, Bool.true_and]
  rw [show 8 - 1 - m % 8 = 7 - m % 8 by omega, ← bit_div]
  omega

set_option maxHeartbeats 1600000 in
set_option maxRecDepth 100000 in
theorem ref32_any (w : World) (s : ByteArray) (hs : s.size < 1000000000000) :
    Calls Tryz.prog 116 #[.string s] w fun e w' => e = .returned (.int .u32 (S32 (tx s) : Nat)) ∧ w = w' := by
  have HE := Lib.hid (ser_sm P32 4294967295 (tx s) (tx_byt s))
  go_enter Tryz.func116, Tryz.ntmps116
  go_wp2
  go_loopw [3, 4] (fun t i wr => ∃ m : Nat, m ≤ 8 * s.size ∧ i = .int .i64 (m : Int) ∧ t = .int .u32 ((ser P32 4294967295 (le (tx s)) m : Nat) : Int) ∧ w = wr) (fun _ i _ => 8 * s.size - (intOf i).toNat)
  case atStart => exact ⟨0, Nat.zero_le _, rfl, rfl, rfl⟩
  case round =>
    obtain ⟨m, hm, rfl, rfl, rfl⟩ := hrel
    have hq := ser32_lt (tx s) m
    by_cases hlt : m < 8 * s.size
    · have h8 : m / 8 < s.size := by omega
      have hb := bit32 h8
      have hbl := bit_lt (tx s) m
      have HS := Lib.hid (ser_step P32 4294967295 (tx s) m)
      generalize bit (tx s) m = e at *
      generalize ser P32 4294967295 (le (tx s)) m = r at *
      have hr : bits .and .u32 (r : Int) 1 = ((r % 2 : Nat) : Int) := by
        have := u32_and_nat r 1 hq (by omega)
        rw [nat_mask1] at this
        exact this
      have hx : bits .xor .u32 ((r : Int) / 2) 3988292384 = ((r / 2 ^^^ P32 : Nat) : Int) := u32_xor_nat (r / 2) 3988292384 (by omega) (by omega)
      go_wp2
      · rename_i hc
        have hne : ¬ e = r % 2 := by rintro rfl; simp at hc
        have hs' := HS.out
        rw [if_neg hne] at hs'
        exact ⟨⟨m + 1, by omega, by go_num, by rw [hs'], trivial⟩, by simp [intOf]; omega⟩
      · rename_i hc
        have hne : e = r % 2 := by simp at hc; omega
        have hs' := HS.out
        rw [if_pos hne] at hs'
        exact ⟨⟨m + 1, by omega, by go_num, by rw [hs']; rfl, trivial⟩, by simp [intOf]; omega⟩
    · obtain rfl : m = 8 * s.size := by omega
      rw [tx_len] at HE
      have hE := HE.out
      have HS := Lib.hid (show ((S32 (tx s) : Nat) : Int) = 4294967295 - ((sm P32 4294967295 (tx s) : Nat) : Int) by unfold S32; rw [hE] at hq; omega)
      rw [hE]
      rw [hE] at hq
      go_wp2
      go_ret
      refine ⟨?_, rfl⟩
      rw [HS.out]
      rfl

theorem rev_p16 : rev 16 P16 = 4129 := by decide

set_option maxHeartbeats 1600000 in
set_option maxRecDepth 100000 in
theorem ref16_gen (f : Nat → Nat) (hf0 : f 65535 = 65535) (hfl : ∀ q, f q < 65536) (hfh : ∀ q, q < 65536 → f (q / 2) = f q * 2 % 65536) (hft : ∀ q, f q / 32768 = q % 2) (hfx : ∀ q, f (q ^^^ P16) = f q ^^^ 4129)
    (w : World) (s : ByteArray) (L : List Nat) (hL : L.length = s.size) (hLb : Byt L) (hs : s.size < 1000000000000) (hbit : ∀ m (h : m / 8 < s.size), bits .and .u16 (((s[m / 8]'h).toNat : Int) / 2 ^ (7 - m % 8) % 65536) 1 = ((bit L m : Nat) : Int)) :
    Calls Tryz.prog 180 #[.string s] w fun e w' => e = .returned (.int .u16 (f (sm P16 65535 L) : Nat)) ∧ w = w' := by
  have HE := Lib.hid (ser_sm P16 65535 L hLb)
  rw [hL] at HE
  have H1 := Lib.hid hfl
  have H2 := Lib.hid hfh
  have H3 := Lib.hid hft
  have H4 := Lib.hid hfx
  have H5 := Lib.hid hbit
  clear hfl hfh hft hfx hbit hL hLb
  go_enter Tryz.func180, Tryz.ntmps180
  go_wp2
  go_loopw [3, 4] (fun t i wr => ∃ m : Nat, m ≤ 8 * s.size ∧ i = .int .i64 (m : Int) ∧ t = .int .u16 ((f (ser P16 65535 (le L) m) : Nat) : Int) ∧ w = wr) (fun _ i _ => 8 * s.size - (intOf i).toNat)
  case atStart =>
    refine ⟨0, Nat.zero_le _, rfl, ?_, rfl⟩
    show Value.int .u16 65535 = .int .u16 ((f 65535 : Nat) : Int)
    rw [hf0]
    rfl
  case round =>
    obtain ⟨m, hm, rfl, rfl, rfl⟩ := hrel
    have hq := ser16_lt L m
    by_cases hlt : m < 8 * s.size
    · have h8 : m / 8 < s.size := by omega
      have hb := H5.out m h8
      rw [← IntKind.wrap_u16] at hb
      have hbl := bit_lt L m
      have HS := Lib.hid (ser_step P16 65535 L m)
      generalize bit L m = e at *
      generalize ser P16 65535 (le L) m = q at *
      have ht := H3.out q
      have HH := Lib.hid (H2.out q hq)
      have hx' := H4.out (q / 2)
      rw [HH.out] at hx'
      have hrl := H1.out q
      have HT := Lib.hid hx'
      generalize f q = r at *
      have hr : (r : Int) / 32768 = ((q % 2 : Nat) : Int) := by rw [← ht]; rfl
      have hd : IntKind.wrap .u16 ((r : Int) * 2) = ((r * 2 % 65536 : Nat) : Int) := by rw [IntKind.wrap_u16]; rfl
      have hx : bits .xor .u16 ((r * 2 % 65536 : Nat) : Int) 4129 = ((r * 2 % 65536 ^^^ 4129 : Nat) : Int) := u16_xor_nat (r * 2 % 65536) 4129 (by omega) (by omega)
      clear ht hx'
      go_wp2
      · rename_i hc
        have hne : ¬ e = q % 2 := by rintro rfl; simp at hc
        have hs' := HS.out
        rw [if_neg hne] at hs'
        exact ⟨⟨m + 1, by omega, by go_num, by rw [hs', HT.out, ← hx]; rfl, trivial⟩, by simp [intOf]; omega⟩
      · rename_i hc
        have hne : e = q % 2 := by simp at hc; omega
        have hs' := HS.out
        rw [if_pos hne] at hs'
        exact ⟨⟨m + 1, by omega, by go_num, by rw [hs', HH.out]; rfl, trivial⟩, by simp [intOf]; omega⟩
    · obtain rfl : m = 8 * s.size := by omega
      rw [HE.out]
      go_wp2
      go_ret
      exact ⟨rfl, rfl⟩

theorem ref16_any (w : World) (s : ByteArray) (hs : s.size < 1000000000000) :
    Calls Tryz.prog 180 #[.string s] w fun e w' => e = .returned (.int .u16 (S16 (tx s) : Nat)) ∧ w = w' :=
  ref16_gen (rev 16) (by decide) (rev_lt 16) (fun q hq => (rev_half hq).symm) rev_top (fun q => by rw [rev_xor, rev_p16]) w s ((tx s).map (rev 8)) (by rw [List.length_map, tx_len]) (Byt.rev8 _) hs (fun _ h => bit16 h)
end Crc
end Go.Proofs.YtilolepbfmcbgaaGreatDoor
/- Words' bytes, and the program's sums of them. -/
namespace Go.Proofs.YtilolepbfmcbgaaGreatDoor
open Go.RowKit Go.MapKept
namespace Crc

/-- a word's bytes, the lowest first -/
def wb (x : Nat) : List Nat := (List.range 8).map fun k => x / 256 ^ k % 256

theorem wb_len (x : Nat) : (wb x).length = 8 := by simp [wb]
theorem wb_get {x k : Nat} (h : k < (wb x).length) : (wb x)[k] = x / 256 ^ k % 256 := by simp [wb]
theorem wb_byt (x : Nat) : Byt (wb x) := by
  intro b hb
  obtain ⟨k, _, rfl⟩ := List.mem_map.1 hb
  exact Nat.mod_lt _ (by omega)

/-- these words lie at A -/
structure Wds (w : World) (A : Option Addr) (l : List Nat) : Prop where
  u64 : ∀ x ∈ l, x < 18446744073709551616
  len : l.length ≤ 9223372036854775807
  at' : ∀ j (h : j < l.length), ∃ b o, A = some ⟨b, o, none⟩ ∧ b < w.heap.size ∧ w.cell? ⟨b, o + j, none⟩ = some (.int .u64 (l[j] : Int))

theorem Wds.keep {w w' : World} {A : Option Addr} {l : List Nat} (h : Wds w A l) (hb : Below w.heap.size w w') : Wds w' A l :=
  ⟨h.u64, h.len, fun j hj => by
    obtain ⟨b, o, e, hlt, hc⟩ := h.at' j hj
    exact ⟨b, o, e, Nat.lt_of_lt_of_le hlt hb.size, (hb.cell (p := ⟨b, o + j, none⟩) hlt).trans hc⟩⟩

def wflat (l : List Nat) : List Nat := l.flatMap wb
theorem wflat_take {l : List Nat} {m : Nat} (h : m < l.length) : wflat (l.take (m + 1)) = wflat (l.take m) ++ wb l[m] := by
  unfold wflat
  rw [List.take_succ_eq_append_getElem h, List.flatMap_append]
  simp
theorem wflat_byt (l : List Nat) : Byt (wflat l) := by
  intro b hb
  obtain ⟨q, _, hb⟩ := List.mem_flatMap.1 hb
  exact wb_byt q b hb

theorem wordByte_any (w : World) (x k : Nat) (_hx : x < 18446744073709551616) (hk : k < 8) :
    Calls Tryz.prog 135 #[.int .u64 (x : Int), .int .i64 (k : Int)] w fun e w' => e = .returned (.int .u8 (x / 256 ^ k % 256 : Nat)) ∧ w = w' := by
  have e : x / 256 ^ k % 256 = x / 2 ^ (k * 8) % 256 := by
    rw [Nat.mul_comm k 8, Nat.pow_mul]
  have HE := Lib.hid e
  clear e
  go_enter Tryz.func135, Tryz.ntmps135
  go_wp2
  go_ret
  refine ⟨?_, rfl⟩
  rw [HE.out]
  simp

section
variable {w : World}
set_option maxHeartbeats 1600000 in
set_option maxRecDepth 100000 in
theorem words32_any (A : Option Addr) (c : Nat) (l : List Nat) (h : Wds w A l) :
    Calls Tryz.prog 94 #[.slice A l.length c] w fun e w' => e = .returned (.int .u32 (S32 (wflat l) : Nat)) ∧ w = w' := by
  have hn := h.len
  have H := Lib.hid h
  clear h
  have HN := Lib.hid (fun r b hr hb => next32_any w r b hr hb)
  have HW := Lib.hid (fun x k hx hk => wordByte_any w x k hx hk)
  go_enter Tryz.func94, Tryz.ntmps94
  go_wp2
  go_loopw [3, 9] (fun s i wr => ∃ m : Nat, m ≤ l.length ∧ i = .int .i64 (m : Int) ∧ s = .int .u32 ((sm P32 4294967295 (wflat (l.take m)) : Nat) : Int) ∧ w = wr) (fun _ i _ => l.length - (intOf i).toNat)
  case atStart => exact ⟨0, Nat.zero_le _, rfl, rfl, rfl⟩
  case round =>
    obtain ⟨m, hm, rfl, rfl, rfl⟩ := hrel
    by_cases hlt : m < l.length
    · obtain ⟨b, o, rfl, hb, hcell⟩ := H.out.at' m hlt
      have hx := H.out.u64 _ (List.getElem_mem hlt)
      have hr0 : sm P32 4294967295 (wflat (l.take m)) < 4294967296 := sm32_lt _ _ (by omega) (wflat_byt _)
      have HR := Lib.hid (show sm P32 4294967295 (wflat (l.take (m + 1))) = sm P32 (sm P32 4294967295 (wflat (l.take m))) (wb l[m]) by rw [wflat_take hlt, sm_append])
      generalize l[m] = x at *
      generalize sm P32 4294967295 (wflat (l.take m)) = r0 at *
      go_wp2
      go_loopw [3, 13] (fun s i wr => ∃ j : Nat, j ≤ 8 ∧ i = .int .i64 (j : Int) ∧ s = .int .u32 ((sm P32 r0 ((wb x).take j) : Nat) : Int) ∧ w = wr) (fun _ i _ => 8 - (intOf i).toNat)
      case atStart => exact ⟨0, Nat.zero_le _, rfl, rfl, rfl⟩
      case round =>
        obtain ⟨j, hj, rfl, rfl, rfl⟩ := hrel
        by_cases hjl : j < 8
        · have hjw : j < (wb x).length := by rw [wb_len]; exact hjl
          have hrj : sm P32 r0 ((wb x).take j) < 4294967296 := sm32_lt _ _ hr0 ((wb_byt x).take j)
          have hby : x / 256 ^ j % 256 < 256 := Nat.mod_lt _ (by omega)
          have hnx := HN.out _ _ hrj hby
          have e : sm P32 r0 ((wb x).take (j + 1)) = nx P32 (sm P32 r0 ((wb x).take j)) (x / 256 ^ j % 256) := by rw [sm_take hjw, wb_get]
          rw [← e] at hnx
          have HX := Lib.hid hnx
          have HY := Lib.hid (HW.out x j hx hjl)
          clear hnx e hby
          go_wp2_with fail
          refine HY.out.mono ?_
          generalize x / 256 ^ j % 256 = y at *
          rintro e w' ⟨rfl, rfl⟩
          go_wp2_with fail
          refine HX.out.mono ?_
          rintro e w' ⟨rfl, rfl⟩
          go_wp2
          exact ⟨⟨j + 1, by omega, by go_num, rfl, trivial⟩, by simp [intOf]; omega⟩
        · obtain rfl : j = 8 := by omega
          rw [List.take_of_length_le (by rw [wb_len]; exact Nat.le_refl _), ← HR.out]
          go_wp2
          exact ⟨⟨m + 1, by omega, by go_num, rfl, trivial⟩, by simp [intOf]; omega⟩
    · obtain rfl : m = l.length := by omega
      rw [List.take_length]
      have hi := inv32 _ (sm32_lt (wflat l) 4294967295 (by omega) (wflat_byt l))
      go_wp2
      go_ret
      exact ⟨rfl, rfl⟩

end
end Crc
end Go.Proofs.YtilolepbfmcbgaaGreatDoor
/- Bytes as a text; the document's bytes of words; CrcWords. -/
namespace Go.Proofs.YtilolepbfmcbgaaGreatDoor
open Go.RowKit Go.MapKept
namespace Crc

theorem ofNat_toNat {b : Nat} (h : b < 256) : (UInt8.ofNat b).toNat = b := by
  rw [UInt8.toNat_ofNat']
  omega

/-- the text of bytes -/
def str (l : List Nat) : ByteArray := ⟨(l.map UInt8.ofNat).toArray⟩
theorem str_size (l : List Nat) : (str l).size = l.length := by
  show ((l.map UInt8.ofNat).toArray).size = _
  rw [List.size_toArray, List.length_map]
theorem tx_str {l : List Nat} (h : Byt l) : tx (str l) = l := by
  unfold tx str
  rw [List.map_map]
  refine (List.map_congr_left (fun b hb => ?_)).trans (List.map_id l)
  exact ofNat_toNat (h b hb)

theorem conv_str {W : World} {A : Option Addr} {l : List Nat} (c : Nat) (h : Bts W A l) : (convert 170 9 (.slice A l.length c)).run Tryz.prog W = .ok (.string (str l)) W := by
  cases A with
  | none =>
    have hl : l = [] := by
      cases l with
      | nil => rfl
      | cons b l =>
        obtain ⟨_, _, e, _⟩ := h.at' 0 (by simp)
        cases e
    subst hl
    exact run_convert_bytes_nil W _ _ Tryz.underlying170 Tryz.underlying5 0 c _ Tryz.underlying9
  | some a =>
    have hr := run_convert_bytes_back (P := Tryz.prog) W 170 9 5 a c (l.map UInt8.ofNat) Tryz.underlying170 Tryz.underlying5 Tryz.underlying9 (fun j hj => by
      rw [List.length_map] at hj
      obtain ⟨b, o, e, _, hc⟩ := h.at' j hj
      injection e with e
      subst e
      rw [Go.WideShapes.add_plain, hc, List.getElem_map, ofNat_toNat (h.byt _ (List.getElem_mem hj))])
    rw [List.length_map] at hr
    exact hr

/-- bytes as cells -/
def u8s (l : List Nat) : List Value := l.map fun b : Nat => Value.int .u8 (b : Int)
theorem u8s_one (l : List Nat) : ∀ u ∈ u8s l, u.oneCell' = true := by
  intro u hu
  obtain ⟨x, _, rfl⟩ := List.mem_map.1 hu
  rfl

theorem own_bts {W : World} {B n c : Nat} {G : Option Addr} {bs : List Nat} (h : W.ownsRow B 5 1 (.slice G n c) n (u8s bs)) (hb : Byt bs) (hm : n ≤ 9223372036854775807) : Bts W G bs := by
  have hl : bs.length = n := by
    have := h.1
    simpa [u8s] using this
  refine ⟨hb, by omega, fun j hj => ?_⟩
  rcases h.2 with ⟨e, h0⟩ | ⟨g, cap, cur, e, _, hh, _, _, _, ht⟩
  · omega
  · injection e with e
    subst e
    refine ⟨g, 0, rfl, (Array.getElem?_eq_some_iff.1 hh).1, ?_⟩
    have := congrArg (·[j]?) ht
    simp only [Nat.mul_one, u8s] at this
    rw [List.getElem?_take, if_pos (by omega), List.getElem?_map, List.getElem?_eq_getElem hj] at this
    unfold World.cell?
    rw [hh, Nat.zero_add]
    simp only
    rw [← Array.getElem?_toList]
    simpa using this

theorem row_slice {B n : Nat} {W : World} {e : TypeId} {v : Value} {xs : List Value} (h : W.ownsRow B e 1 v n xs) : ∃ G c, v = .slice G n c := by
  rcases h.2 with ⟨e, h0⟩ | ⟨g, cap, cur, e, _⟩
  · exact ⟨none, 0, by rw [e, h0]⟩
  · exact ⟨_, _, e⟩
theorem row_base_lt {w : World} {B : Nat} {e : TypeId} {n : Nat} {v : Value} {xs : List Value} (h : w.ownsRow B e 1 v n xs) {g : Nat} (hg : v.ownBlock = some g) : B ≤ g := by
  rcases h.2 with ⟨e, _⟩ | ⟨g', cap, cur, e, hb, hh, _⟩
  · rw [e] at hg; simp [Value.ownBlock] at hg
  · rw [e] at hg
    simp only [Value.ownBlock, Option.some.injEq] at hg
    omega

theorem u8_info : (Tryz.prog.info? 5).map (fun i => (i.zero, i.size, i.bytes)) = some (some (.int .u8 0), 1, 1) := by kernel_rfl

/-- bytes of the call's own -/
def Got (w wr : World) (G : Option Addr) (n gc : Nat) (bs : List Nat) : Prop := wr.ownsRow w.heap.size 5 1 (.slice G n gc) n (u8s bs) ∧ Below w.heap.size w wr

theorem wflat_len (l : List Nat) : (wflat l).length = 8 * l.length := by
  unfold wflat
  induction l with
  | nil => rfl
  | cons x l ih => rw [List.flatMap_cons, List.length_append, ih, wb_len, List.length_cons]; omega

theorem div_pow (x j : Nat) : x / 256 ^ (j + 1) = x / 256 ^ j / 256 := by rw [Nat.pow_succ, Nat.div_div_eq_div_mul]

section
variable {w : World}
set_option maxHeartbeats 1600000 in
set_option maxRecDepth 100000 in
theorem bytes_any (A : Option Addr) (c : Nat) (l : List Nat) (h : Wds w A l) (h60 : l.length ≤ 60) :
    Calls Tryz.prog 117 #[.slice A l.length c] w fun e w' => e = .returned (.string (str (wflat l))) ∧ Below w.heap.size w w' := by
  have H := Lib.hid h
  clear h
  go_enter Tryz.func117, Tryz.ntmps117
  go_wp2
  go_loopw [3, 8] (fun v i wr => ∃ (m : Nat) (G : Option Addr) (gc : Nat), m ≤ l.length ∧ i = .int .i64 (m : Int) ∧ v = .slice G (8 * m) gc ∧ Got w wr G (8 * m) gc (wflat (l.take m))) (fun _ i _ => l.length - (intOf i).toNat)
  case atStart => exact ⟨0, none, 0, Nat.zero_le _, rfl, rfl, ⟨by rw [List.take_zero]; rfl, .inl ⟨rfl, rfl⟩⟩, Below.refl _ _⟩
  case round =>
    obtain ⟨m, G, gc, hm, rfl, rfl, hgot⟩ := hrel
    by_cases hlt : m < l.length
    · obtain ⟨b, o, rfl, hb, hcell0⟩ := H.out.at' m hlt
      have hcell := (hgot.2.cell (p := ⟨b, o + m, none⟩) hb).trans hcell0
      have hx := H.out.u64 _ (List.getElem_mem hlt)
      have HR := Lib.hid (wflat_take hlt)
      have HG := Lib.hid hgot
      generalize l[m] = x at *
      clear hgot hcell0
      go_wp2
      go_loopw [3, 5, 12] (fun v y i w2 => ∃ (j : Nat) (G : Option Addr) (gc : Nat), j ≤ 8 ∧ i = .int .i64 (j : Int) ∧ y = .int .u64 ((x / 256 ^ j : Nat) : Int) ∧ v = .slice G (8 * m + j) gc ∧ Got w w2 G (8 * m + j) gc (wflat (l.take m) ++ (wb x).take j)) (fun _ _ i _ => 8 - (intOf i).toNat)
      case atStart => exact ⟨0, G, gc, Nat.zero_le _, rfl, by simp, rfl, by simpa using HG.out⟩
      case round =>
        obtain ⟨j, G2, gc2, hj, rfl, rfl, rfl, hgot2⟩ := hrel
        by_cases hjl : j < 8
        · have hjw : j < (wb x).length := by rw [wb_len]; exact hjl
          have e1 : (wb x).take (j + 1) = (wb x).take j ++ [x / 256 ^ j % 256] := by rw [List.take_succ_eq_append_getElem hjw, wb_get]
          have e2 := div_pow x j
          have hyl : x / 256 ^ j < 18446744073709551616 := Nat.lt_of_le_of_lt (Nat.div_le_self _ _) hx
          have HE1 := Lib.hid e1
          have HE2 := Lib.hid e2
          generalize x / 256 ^ j = y at *
          obtain ⟨i0, hi0, hz0, hz1, hz2⟩ := info_parts u8_info
          have HOWN := Lib.hid (hgot2.1.alloc (.cells #[.int .u8 ((y : Int) % 256)] 5))
          have HB2 := Lib.hid hgot2.2
          have HRW := Lib.hid hgot2.1
          clear hgot2 e1 e2 hx
          go_wp2_with (at_builtin; refine wpList_append_own_at _ rfl (.tmp 14) (.tmp 18) 170 rfl w.heap.size 5 i0 (.int .u8 0) 1 1 Tryz.underlying170 hi0 hz0 hz1 hz2 rfl (by decide) (.slice G2 (8 * m + j) gc2) (8 * m + j) (u8s (wflat (l.take m) ++ (wb x).take j)) rfl HOWN.out ⟨wr.heap.size, 0, none⟩ 1 1 [.int .u8 ((y : Int) % 256)] rfl rfl (cell_one_new _ _ _) (by simp [Value.oneCell']) (by unfold maxLen; omega) (by omega) (by have := HB2.out.size; simp; omega) ?_
                       intro v' w3 hown3 hgr3 _ _
                       obtain ⟨G', gc', rfl⟩ := row_slice hown3
                       have HO3 := Lib.hid hown3
                       have HG3 := Lib.hid hgr3
                       clear hown3 hgr3)
          refine ⟨⟨j + 1, G', gc', by omega, by go_num, ?_, rfl, ?_, ?_⟩, by simp [intOf]; omega⟩
          · rw [HE2.out]
            rfl
          · have e : u8s (wflat (l.take m) ++ (wb x).take (j + 1)) = u8s (wflat (l.take m) ++ (wb x).take j) ++ [.int .u8 ((y : Int) % 256)] := by
              rw [HE1.out, ← List.append_assoc]
              simp only [u8s, List.map_append]
              rfl
            rw [e]
            exact HO3.out
          · exact (HB2.out.alloc HB2.out.size _).grown HG3.out (by have := HB2.out.size; simp; omega) (fun k hk => row_base_lt HRW.out hk)
        · obtain rfl : j = 8 := by omega
          rw [List.take_of_length_le (l := wb x) (by rw [wb_len]; exact Nat.le_refl _), ← HR.out] at hgot2
          have HG2 := Lib.hid hgot2
          clear hgot2
          go_wp2
          exact ⟨⟨m + 1, G2, gc2, by omega, by go_num, rfl, HG2.out⟩, by simp [intOf]; omega⟩
    · obtain rfl : m = l.length := by omega
      rw [List.take_length] at hgot
      have hcv := conv_str gc (own_bts hgot.1 (wflat_byt l) (by omega))
      rw [wflat_len] at hcv
      have HB := Lib.hid hgot.2
      clear hgot
      go_wp2
      go_ret
      exact ⟨rfl, HB.out⟩

end
end Crc
end Go.Proofs.YtilolepbfmcbgaaGreatDoor
/- Bytes some bits of which are turned, and that the sums tell it. -/
namespace Go.Proofs.YtilolepbfmcbgaaGreatDoor
open Go.RowKit Go.MapKept
namespace Crc

/-- of l the bits from f on are turned that m says, m of i bits -/
structure Trn (l : List Nat) (f i m : Nat) (c : List Nat) : Prop where
  byt : Byt c
  len : c.length = l.length
  lt : m < 2 ^ i
  eq : le c = le l ^^^ m * 2 ^ f
  zero : m = 0 → c = l

theorem Trn.refl {l : List Nat} (h : Byt l) (f : Nat) : Trn l f 0 0 l := ⟨h, rfl, by simp, by simp, fun _ => rfl⟩
theorem Trn.skip {l c : List Nat} {f i m : Nat} (h : Trn l f i m c) : Trn l f (i + 1) m c := ⟨h.byt, h.len, by have := h.lt; rw [Nat.pow_succ]; omega, h.eq, h.zero⟩

theorem xor_shift (m i f : Nat) : (m ^^^ 2 ^ i) * 2 ^ f = m * 2 ^ f ^^^ 2 ^ (f + i) := by
  apply Nat.eq_of_testBit_eq
  intro j
  rw [Nat.pow_add, Nat.mul_comm (2 ^ f) (2 ^ i)]
  simp only [Nat.testBit_xor, Nat.testBit_mul_two_pow]
  by_cases h : f ≤ j <;> simp [h]

theorem bit_in {m i : Nat} (h : m < 2 ^ i) : m ^^^ 2 ^ i ≠ 0 ∧ m ^^^ 2 ^ i < 2 ^ (i + 1) := by
  constructor
  · intro h0
    have : (m ^^^ 2 ^ i).testBit i = true := by
      rw [Nat.testBit_xor, Nat.testBit_lt_two_pow h, Nat.testBit_two_pow_self]
      rfl
    rw [h0] at this
    simp at this
  · refine Nat.xor_lt_two_pow ?_ ?_
    · rw [Nat.pow_succ]; omega
    · exact Nat.pow_lt_pow_right (by omega) (by omega)

theorem Byt.set {l : List Nat} (h : Byt l) (j : Nat) {x : Nat} (hx : x < 256) : Byt (l.set j x) := fun b hb => by
  rcases List.mem_or_eq_of_mem_set hb with h1 | h1
  · exact h b h1
  · omega

theorem xor_bit_lt {x t : Nat} (hx : x < 256) (ht : t < 8) : x ^^^ 2 ^ t < 256 := Nat.xor_lt_two_pow (n := 8) hx (Nat.pow_lt_pow_right (by omega) ht)

theorem get_byt {l : List Nat} (h : Byt l) (j : Nat) : l[j]?.getD 0 < 256 := by
  rcases Nat.lt_or_ge j l.length with h1 | h1
  · rw [List.getElem?_eq_getElem h1]
    exact h _ (List.getElem_mem h1)
  · rw [List.getElem?_eq_none h1]
    simp

/-- one bit more -/
theorem Trn.turn {l c : List Nat} {f i m : Nat} (h : Trn l f i m c) (hk : (f + i) / 8 < l.length) : Trn l f (i + 1) (m ^^^ 2 ^ i) (c.set ((f + i) / 8) (c[(f + i) / 8]?.getD 0 ^^^ 2 ^ ((f + i) % 8))) := by
  have hb := bit_in h.lt
  have ht : (f + i) % 8 < 8 := Nat.mod_lt _ (by omega)
  refine ⟨h.byt.set _ (xor_bit_lt (get_byt h.byt _) ht), by rw [List.length_set]; exact h.len, hb.2, ?_, fun h0 => absurd h0 hb.1⟩
  rw [le_set c _ _ h.byt (by rw [h.len]; exact hk) ht, h.eq, Nat.xor_assoc, xor_shift]
  congr 2
  congr 1
  omega

theorem Trn.told32 {l c : List Nat} {f i m : Nat} (h : Trn l f i m c) (hl : Byt l) (hi : i ≤ 32) (hf : f ≤ 8 * l.length) (h0 : m ≠ 0) : S32 c ≠ S32 l := by
  have hm : m < 2 ^ (31 + 1) := Nat.lt_of_lt_of_le h.lt (Nat.pow_le_pow_right (by omega) hi)
  have := burst (p := P32) (w := 31) (by decide) (by decide) 4294967295 f m l c hl h.byt h.len hm h0 hf h.eq
  have h1 := sm32_lt c 4294967295 (by omega) h.byt
  have h2 := sm32_lt l 4294967295 (by omega) hl
  unfold S32
  omega

theorem Trn.told16 {l d : List Nat} {f i m : Nat} (h : Trn (l.map (rev 8)) f i m (d.map (rev 8))) (hi : i ≤ 16) (hf : f ≤ 8 * l.length) (h0 : m ≠ 0) : S16 d ≠ S16 l := by
  have hm : m < 2 ^ (15 + 1) := Nat.lt_of_lt_of_le h.lt (Nat.pow_le_pow_right (by omega) hi)
  have hb := burst (p := P16) (w := 15) (by decide) (by decide) 65535 f m (l.map (rev 8)) (d.map (rev 8)) (Byt.rev8 l) h.byt h.len hm h0 (by rw [List.length_map]; exact hf) h.eq
  intro e
  exact hb (rev_inj (w := 16) (sm16_lt _ _ (by omega) (Byt.rev8 d)) (sm16_lt _ _ (by omega) (Byt.rev8 l)) e)

theorem map_set_rev (d : List Nat) (j t : Nat) (ht : t < 8) : (d.set j (d[j]?.getD 0 ^^^ 2 ^ (7 - t))).map (rev 8) = (d.map (rev 8)).set j ((d.map (rev 8))[j]?.getD 0 ^^^ 2 ^ t) := by
  rw [List.map_set, rev_turn ht]
  congr 2
  rw [List.getElem?_map]
  cases d[j]? with
  | none => decide
  | some x => rfl

theorem map_rev_inj {l d : List Nat} (hl : Byt l) (hd : Byt d) (h : d.map (rev 8) = l.map (rev 8)) : d = l := by
  have hlen : d.length = l.length := by
    have := congrArg List.length h
    simpa using this
  refine List.ext_getElem hlen (fun j h1 h2 => ?_)
  have := congrArg (·[j]?) h
  simp only [List.getElem?_map, List.getElem?_eq_getElem h1, List.getElem?_eq_getElem h2, Option.map_some, Option.some.injEq] at this
  exact rev_inj (w := 8) (hd _ (List.getElem_mem h1)) (hl _ (List.getElem_mem h2)) this

theorem str_inj {l c : List Nat} (hl : Byt l) (hc : Byt c) (h : str c = str l) : c = l := by
  rw [← tx_str hl, ← tx_str hc, h]
end Crc
end Go.Proofs.YtilolepbfmcbgaaGreatDoor
/- Words and their bytes, as numbers. -/
namespace Go.Proofs.YtilolepbfmcbgaaGreatDoor
namespace Pack

def Byt (l : List Nat) : Prop := ∀ b ∈ l, b < 256
theorem Byt.take {l : List Nat} (h : Byt l) (n : Nat) : Byt (l.take n) := fun b hb => h b (List.mem_of_mem_take hb)

/-- a word's bytes, the lowest first -/
def wb (x : Nat) : List Nat := (List.range 8).map fun k => x / 256 ^ k % 256
theorem wb_len (x : Nat) : (wb x).length = 8 := by simp [wb]
theorem wb_get {x k : Nat} (h : k < (wb x).length) : (wb x)[k] = x / 256 ^ k % 256 := by simp [wb]
theorem wb_byt (x : Nat) : Byt (wb x) := by
  intro b hb
  obtain ⟨k, _, rfl⟩ := List.mem_map.1 hb
  exact Nat.mod_lt _ (by omega)

/-- words' bytes -/
def wflat (l : List Nat) : List Nat := l.flatMap wb
theorem wflat_take {l : List Nat} {m : Nat} (h : m < l.length) : wflat (l.take (m + 1)) = wflat (l.take m) ++ wb l[m] := by
  unfold wflat
  rw [List.take_succ_eq_append_getElem h, List.flatMap_append]
  simp
theorem wflat_byt (l : List Nat) : Byt (wflat l) := by
  intro b hb
  obtain ⟨q, _, hb⟩ := List.mem_flatMap.1 hb
  exact wb_byt q b hb
theorem wflat_len (l : List Nat) : (wflat l).length = 8 * l.length := by
  unfold wflat
  induction l with
  | nil => rfl
  | cons x l ih => rw [List.flatMap_cons, List.length_append, ih, wb_len, List.length_cons]; omega
theorem wflat_get : ∀ {l : List Nat} {i j : Nat} (h : i < l.length), j < 8 → (wflat l)[8 * i + j]?.getD 0 = l[i] / 256 ^ j % 256
  | x :: l, 0, j, _, hj => by
    unfold wflat
    rw [List.flatMap_cons, List.getElem?_append_left (by rw [wb_len]; omega), List.getElem?_eq_getElem (by rw [wb_len]; omega), wb_get]
    simp
  | x :: l, i + 1, j, h, hj => by
    have := wflat_get (l := l) (i := i) (j := j) (by simpa using h) hj
    have e : 8 * (i + 1) + j = 8 * i + j + (wb x).length := by rw [wb_len]; omega
    have e2 : wflat (x :: l) = wb x ++ wflat l := by simp [wflat]
    rw [e2, e, List.getElem?_append_right (by omega), Nat.add_sub_cancel, this]
    simp

theorem div_pow (x j : Nat) : x / 256 ^ (j + 1) = x / 256 ^ j / 256 := by rw [Nat.pow_succ, Nat.div_div_eq_div_mul]

/-- a byte of a row, 0 where there is none -/
def at0 (b : List Nat) (k : Nat) : Nat := b[k]?.getD 0
theorem at0_lt {b : List Nat} (h : Byt b) (k : Nat) : at0 b k < 256 := by
  unfold at0
  rcases Nat.lt_or_ge k b.length with h1 | h1
  · rw [List.getElem?_eq_getElem h1]
    exact h _ (List.getElem_mem h1)
  · rw [List.getElem?_eq_none h1]
    simp
theorem at0_get {b : List Nat} {k : Nat} (h : k < b.length) : at0 b k = b[k] := by
  unfold at0
  rw [List.getElem?_eq_getElem h]
  rfl
theorem at0_none {b : List Nat} {k : Nat} (h : b.length ≤ k) : at0 b k = 0 := by
  unfold at0
  rw [List.getElem?_eq_none h]
  rfl

/-- word i, of its first n bytes -/
def part (b : List Nat) (i : Nat) : Nat → Nat
  | 0 => 0
  | n + 1 => part b i n + at0 b (8 * i + n) * 256 ^ n

theorem part_lt {b : List Nat} (h : Byt b) (i : Nat) : ∀ n, part b i n < 256 ^ n
  | 0 => by simp [part]
  | n + 1 => by
    have h1 := part_lt h i n
    have h2 := at0_lt h (8 * i + n)
    have h3 : at0 b (8 * i + n) * 256 ^ n ≤ 255 * 256 ^ n := Nat.mul_le_mul_right _ (by omega)
    rw [part, Nat.pow_succ]
    omega

theorem part_end {b : List Nat} {i j : Nat} (h : b.length ≤ 8 * i + j) : ∀ d, part b i (j + d) = part b i j
  | 0 => rfl
  | d + 1 => by
    rw [← Nat.add_assoc, part, part_end h d, at0_none (by omega), Nat.zero_mul, Nat.add_zero]

/-- the words of bytes -/
def wrds (b : List Nat) : List Nat := (List.range ((b.length + 7) / 8)).map fun i => part b i 8
theorem wrds_len (b : List Nat) : (wrds b).length = (b.length + 7) / 8 := by simp [wrds]
theorem wrds_get {b : List Nat} {i : Nat} (h : i < (wrds b).length) : (wrds b)[i] = part b i 8 := by simp [wrds]
theorem wrds_u64 {b : List Nat} (h : Byt b) : ∀ x ∈ wrds b, x < 18446744073709551616 := by
  intro x hx
  obtain ⟨i, _, rfl⟩ := List.mem_map.1 hx
  exact part_lt h i 8

/-- words' bytes are their words -/
theorem part_wflat {l : List Nat} {i : Nat} (h : i < l.length) : ∀ n, n ≤ 8 → part (wflat l) i n = l[i] % 256 ^ n
  | 0, _ => by simp [part, Nat.mod_one]
  | n + 1, hn => by
    rw [part, part_wflat h n (by omega), at0, wflat_get h (by omega), Nat.mod_pow_succ, Nat.mul_comm]
theorem wrds_wflat {l : List Nat} (h : ∀ x ∈ l, x < 18446744073709551616) : wrds (wflat l) = l := by
  apply List.ext_getElem
  · rw [wrds_len, wflat_len]
    omega
  · intro i h1 h2
    rw [wrds_get, part_wflat h2 8 (by omega), Nat.mod_eq_of_lt]
    exact h _ (List.getElem_mem h2)

/-- a byte of a word -/
theorem part_byte {b : List Nat} (h : Byt b) (i : Nat) : ∀ n j, j < n → part b i n / 256 ^ j % 256 = at0 b (8 * i + j)
  | n + 1, j, hj => by
    rw [part]
    rcases Nat.lt_or_ge j n with h1 | h1
    · obtain ⟨d, rfl⟩ : ∃ d, n = j + (d + 1) := ⟨n - j - 1, by omega⟩
      rw [Nat.pow_add, ← Nat.mul_assoc, Nat.mul_comm (at0 b _ ) (256 ^ j), Nat.mul_assoc, Nat.add_mul_div_left _ _ (Nat.pow_pos (by omega)), Nat.pow_succ, ← Nat.mul_assoc, Nat.add_mul_mod_self_right]
      exact part_byte h i _ j (by omega)
    · obtain rfl : j = n := by omega
      have h2 := part_lt h i j
      rw [Nat.add_mul_div_right _ _ (Nat.pow_pos (by omega)), Nat.div_eq_of_lt h2, Nat.zero_add, Nat.mod_eq_of_lt (at0_lt h _)]

theorem wflat_at {l : List Nat} {k : Nat} (h : k < 8 * l.length) : at0 (wflat l) k = l[k / 8] / 256 ^ (k % 8) % 256 := by
  have := wflat_get (l := l) (i := k / 8) (j := k % 8) (by omega) (by omega)
  rw [← this, at0]
  congr 2
  omega

/-- bytes' words' bytes are these, and noughts -/
theorem wflat_wrds {b : List Nat} (h : Byt b) {k : Nat} (hk : k < 8 * ((b.length + 7) / 8)) : at0 (wflat (wrds b)) k = at0 b k := by
  rw [wflat_at (by rw [wrds_len]; exact hk), wrds_get, part_byte h _ 8 _ (by omega)]
  congr 1
  omega

theorem back_len (b : List Nat) : (wflat (wrds b)).length = (b.length + 7) / 8 * 8 := by rw [wflat_len, wrds_len, Nat.mul_comm]
theorem back_take {b : List Nat} (h : Byt b) : (wflat (wrds b)).take b.length = b := by
  apply List.ext_getElem
  · rw [List.length_take, back_len]
    omega
  · intro i h1 h2
    rw [List.getElem_take, ← at0_get, wflat_wrds h (by omega), at0_get h2]
theorem back_drop {b : List Nat} (h : Byt b) {k : Nat} (hk : k < ((wflat (wrds b)).drop b.length).length) : ((wflat (wrds b)).drop b.length)[k] = 0 := by
  rw [List.length_drop, back_len] at hk
  rw [List.getElem_drop, ← at0_get, wflat_wrds h (by omega), at0_none (by omega)]

/-- a word from its highest byte on, n bytes of it -/
def up (b : List Nat) (i : Nat) : Nat → Nat
  | 0 => 0
  | n + 1 => 256 * up b i n + at0 b (8 * i + (7 - n))
theorem up_lt {b : List Nat} (h : Byt b) (i : Nat) : ∀ n, up b i n < 256 ^ n
  | 0 => by simp [up]
  | n + 1 => by
    have h1 := up_lt h i n
    have h2 := at0_lt h (8 * i + (7 - n))
    rw [up, Nat.pow_succ]
    omega
theorem up_part (b : List Nat) (i M : Nat) (hM : M = 7) (n : Nat) : ∀ d, d + n = M + 1 → part b i d + up b i n * 256 ^ d = part b i (M + 1) := by
  induction n with
  | zero => intro d h; rw [up, Nat.zero_mul, Nat.add_zero, ← h, Nat.add_zero]
  | succ n ih =>
    intro d h
    have h1 := ih (d + 1) (by omega)
    have e2 : 7 - n = d := by omega
    rw [part, Nat.pow_succ] at h1
    rw [up, e2, ← h1, Nat.add_mul, Nat.add_assoc]
    congr 1
    rw [Nat.add_comm]
    congr 1
    rw [Nat.mul_comm 256, Nat.mul_assoc, Nat.mul_comm 256]
theorem up_word (b : List Nat) (i : Nat) : up b i 8 = part b i 8 := by
  have h := up_part b i 7 rfl 8 0 rfl
  have e : part b i 0 = 0 := rfl
  rw [e, Nat.zero_add, Nat.pow_zero, Nat.mul_one] at h
  exact h
end Pack
end Go.Proofs.YtilolepbfmcbgaaGreatDoor
/- Bytes in memory and as a text; the program's bytes of words. -/
namespace Go.Proofs.YtilolepbfmcbgaaGreatDoor
open Go.RowKit Go.MapKept
namespace Pack

/-- these bytes lie at A -/
structure Bts (w : World) (A : Option Addr) (l : List Nat) : Prop where
  byt : Byt l
  len : l.length ≤ 9223372036854775807
  at' : ∀ j (h : j < l.length), ∃ b o, A = some ⟨b, o, none⟩ ∧ b < w.heap.size ∧ w.cell? ⟨b, o + j, none⟩ = some (.int .u8 (l[j] : Int))

theorem Bts.keep {w w' : World} {A : Option Addr} {l : List Nat} (h : Bts w A l) (hb : Below w.heap.size w w') : Bts w' A l :=
  ⟨h.byt, h.len, fun j hj => by
    obtain ⟨b, o, e, hlt, hc⟩ := h.at' j hj
    exact ⟨b, o, e, Nat.lt_of_lt_of_le hlt hb.size, (hb.cell (p := ⟨b, o + j, none⟩) hlt).trans hc⟩⟩
theorem Bts.alloc {w : World} {A : Option Addr} {l : List Nat} (h : Bts w A l) (o : Obj) : Bts (w.alloc o) A l := h.keep ((Below.refl _ _).alloc (Nat.le_refl _) o)

theorem ofNat_toNat {b : Nat} (h : b < 256) : (UInt8.ofNat b).toNat = b := by
  rw [UInt8.toNat_ofNat']
  omega

/-- the text of bytes -/
def str (l : List Nat) : ByteArray := ⟨(l.map UInt8.ofNat).toArray⟩
theorem str_size (l : List Nat) : (str l).size = l.length := by
  show ((l.map UInt8.ofNat).toArray).size = _
  rw [List.size_toArray, List.length_map]

theorem conv_str {W : World} {A : Option Addr} {l : List Nat} (c : Nat) (h : Bts W A l) : (convert 170 9 (.slice A l.length c)).run Tryz.prog W = .ok (.string (str l)) W := by
  cases A with
  | none =>
    have hl : l = [] := by
      cases l with
      | nil => rfl
      | cons b l =>
        obtain ⟨_, _, e, _⟩ := h.at' 0 (by simp)
        cases e
    subst hl
    exact run_convert_bytes_nil W _ _ Tryz.underlying170 Tryz.underlying5 0 c _ Tryz.underlying9
  | some a =>
    have hr := run_convert_bytes_back (P := Tryz.prog) W 170 9 5 a c (l.map UInt8.ofNat) Tryz.underlying170 Tryz.underlying5 Tryz.underlying9 (fun j hj => by
      rw [List.length_map] at hj
      obtain ⟨b, o, e, _, hc⟩ := h.at' j hj
      injection e with e
      subst e
      rw [Go.WideShapes.add_plain, hc, List.getElem_map, ofNat_toNat (h.byt _ (List.getElem_mem hj))])
    rw [List.length_map] at hr
    exact hr

/-- bytes as cells -/
def u8s (l : List Nat) : List Value := l.map fun b : Nat => Value.int .u8 (b : Int)
theorem u8s_one (l : List Nat) : ∀ u ∈ u8s l, u.oneCell' = true := by
  intro u hu
  obtain ⟨x, _, rfl⟩ := List.mem_map.1 hu
  rfl

theorem own_bts {W : World} {B n c : Nat} {G : Option Addr} {l : List Nat} (h : W.ownsRow B 5 1 (.slice G n c) n (u8s l)) (hb : Byt l) (hm : n ≤ 9223372036854775807) : Bts W G l := by
  have hl : l.length = n := by
    have := h.1
    simpa [u8s] using this
  refine ⟨hb, by omega, fun j hj => ?_⟩
  obtain ⟨g, e, h1, h2⟩ := own_cells h j (by omega)
  refine ⟨g, 0, e, h1, ?_⟩
  rw [h2, u8s, List.getElem?_map, List.getElem?_eq_getElem hj]
  rfl

theorem row_cap {W : World} {B n c : Nat} {e : TypeId} {s : Nat} {G : Option Addr} {xs : List Value} (h : W.ownsRow B e s (.slice G n c) n xs) : n ≤ c := by
  rcases h.2 with ⟨e, h0⟩ | ⟨g, cap, cur, e, _, _, hc, _⟩
  · omega
  · injection e with _ _ e
    omega

theorem u8_info : (Tryz.prog.info? 5).map (fun i => (i.zero, i.size, i.bytes)) = some (some (.int .u8 0), 1, 1) := by kernel_rfl

/-- bytes of the call's own -/
def Got (w wr : World) (G : Option Addr) (n gc : Nat) (bs : List Nat) : Prop := wr.ownsRow w.heap.size 5 1 (.slice G n gc) n (u8s bs) ∧ Below w.heap.size w wr

section
variable {w : World}
set_option maxHeartbeats 1600000 in
set_option maxRecDepth 100000 in
theorem refBytes_any (A : Option Addr) (c : Nat) (l : List Nat) (h : Wds w A l) (h60 : l.length ≤ 60) :
    Calls Tryz.prog 117 #[.slice A l.length c] w fun e w' => e = .returned (.string (str (wflat l))) ∧ Below w.heap.size w w' := by
  have H := Lib.hid h
  clear h
  go_enter Tryz.func117, Tryz.ntmps117
  go_wp2
  go_loopw [3, 8] (fun v i wr => ∃ (m : Nat) (G : Option Addr) (gc : Nat), m ≤ l.length ∧ i = .int .i64 (m : Int) ∧ v = .slice G (8 * m) gc ∧ Got w wr G (8 * m) gc (wflat (l.take m))) (fun _ i _ => l.length - (intOf i).toNat)
  case atStart => exact ⟨0, none, 0, Nat.zero_le _, rfl, rfl, ⟨by rw [List.take_zero]; rfl, .inl ⟨rfl, rfl⟩⟩, Below.refl _ _⟩
  case round =>
    obtain ⟨m, G, gc, hm, rfl, rfl, hgot⟩ := hrel
    by_cases hlt : m < l.length
    · obtain ⟨b, o, rfl, hb, hcell0⟩ := H.out.at' m hlt
      have hcell := (hgot.2.cell (p := ⟨b, o + m, none⟩) hb).trans hcell0
      have hx := H.out.u64 _ (List.getElem_mem hlt)
      have HR := Lib.hid (wflat_take hlt)
      have HG := Lib.hid hgot
      generalize l[m] = x at *
      clear hgot hcell0
      go_wp2
      go_loopw [3, 5, 12] (fun v y i w2 => ∃ (j : Nat) (G : Option Addr) (gc : Nat), j ≤ 8 ∧ i = .int .i64 (j : Int) ∧ y = .int .u64 ((x / 256 ^ j : Nat) : Int) ∧ v = .slice G (8 * m + j) gc ∧ Got w w2 G (8 * m + j) gc (wflat (l.take m) ++ (wb x).take j)) (fun _ _ i _ => 8 - (intOf i).toNat)
      case atStart => exact ⟨0, G, gc, Nat.zero_le _, rfl, by simp, rfl, by simpa using HG.out⟩
      case round =>
        obtain ⟨j, G2, gc2, hj, rfl, rfl, rfl, hgot2⟩ := hrel
        by_cases hjl : j < 8
        · have hjw : j < (wb x).length := by rw [wb_len]; exact hjl
          have e1 : (wb x).take (j + 1) = (wb x).take j ++ [x / 256 ^ j % 256] := by rw [List.take_succ_eq_append_getElem hjw, wb_get]
          have e2 := div_pow x j
          have hyl : x / 256 ^ j < 18446744073709551616 := Nat.lt_of_le_of_lt (Nat.div_le_self _ _) hx
          have HE1 := Lib.hid e1
          have HE2 := Lib.hid e2
          generalize x / 256 ^ j = y at *
          obtain ⟨i0, hi0, hz0, hz1, hz2⟩ := info_parts u8_info
          have HOWN := Lib.hid (hgot2.1.alloc (.cells #[.int .u8 ((y : Int) % 256)] 5))
          have HB2 := Lib.hid hgot2.2
          have HRW := Lib.hid hgot2.1
          clear hgot2 e1 e2 hx
          go_wp2_with (at_builtin; refine wpList_append_own_at _ rfl (.tmp 14) (.tmp 18) 170 rfl w.heap.size 5 i0 (.int .u8 0) 1 1 Tryz.underlying170 hi0 hz0 hz1 hz2 rfl (by decide) (.slice G2 (8 * m + j) gc2) (8 * m + j) (u8s (wflat (l.take m) ++ (wb x).take j)) rfl HOWN.out ⟨wr.heap.size, 0, none⟩ 1 1 [.int .u8 ((y : Int) % 256)] rfl rfl (cell_one_new _ _ _) (by simp [Value.oneCell']) (by unfold maxLen; omega) (by omega) (by have := HB2.out.size; simp; omega) ?_
                       intro v' w3 hown3 hgr3 _ _
                       obtain ⟨G', gc', rfl⟩ := row_slice hown3
                       have HO3 := Lib.hid hown3
                       have HG3 := Lib.hid hgr3
                       clear hown3 hgr3)
          refine ⟨⟨j + 1, G', gc', by omega, by go_num, ?_, rfl, ?_, ?_⟩, by simp [intOf]; omega⟩
          · rw [HE2.out]
            rfl
          · have e : u8s (wflat (l.take m) ++ (wb x).take (j + 1)) = u8s (wflat (l.take m) ++ (wb x).take j) ++ [.int .u8 ((y : Int) % 256)] := by
              rw [HE1.out, ← List.append_assoc]
              simp only [u8s, List.map_append]
              rfl
            rw [e]
            exact HO3.out
          · exact (HB2.out.alloc HB2.out.size _).grown HG3.out (by have := HB2.out.size; simp; omega) (fun k hk => row_base_lt HRW.out hk)
        · obtain rfl : j = 8 := by omega
          rw [List.take_of_length_le (l := wb x) (by rw [wb_len]; exact Nat.le_refl _), ← HR.out] at hgot2
          have HG2 := Lib.hid hgot2
          clear hgot2
          go_wp2
          exact ⟨⟨m + 1, G2, gc2, by omega, by go_num, rfl, HG2.out⟩, by simp [intOf]; omega⟩
    · obtain rfl : m = l.length := by omega
      rw [List.take_length] at hgot
      have hcv := conv_str gc (own_bts hgot.1 (wflat_byt l) (by omega))
      rw [wflat_len] at hcv
      have HB := Lib.hid hgot.2
      clear hgot
      go_wp2
      go_ret
      exact ⟨rfl, HB.out⟩

set_option maxHeartbeats 1600000 in
set_option maxRecDepth 100000 in
theorem bytes_any (A : Option Addr) (c : Nat) (l : List Nat) (h : Wds w A l) (h60 : l.length ≤ 1000000000000) :
    Calls Tryz.prog 102 #[.slice A l.length c] w fun e w' => ∃ (G : Option Addr) (gc : Nat), e = .returned (.slice G (8 * l.length) gc) ∧ 8 * l.length ≤ gc ∧ Bts w' G (wflat l) ∧ Below w.heap.size w w' := by
  have H := Lib.hid h
  clear h
  obtain ⟨i0, hi0, hz0, hz1, hz2⟩ := info_parts u8_info
  obtain ⟨w1, hmk, hown, hgr⟩ := run_make_own (P := Tryz.prog) w w.heap.size 170 5 i0 (.int .u8 0) 1 Tryz.underlying170 hi0 hz0 hz1 .i64 .i64 (8 * l.length) (by rw [hz2]; omega) (by unfold maxLen; omega) (Nat.le_refl _)
  have HOW := Lib.hid (show Got w w1 (some ⟨w.heap.size, 0, none⟩) 0 (8 * l.length) [] from ⟨hown, (Below.refl _ _).grown hgr (Nat.le_refl _) (fun k hk => by cases hk)⟩)
  have hmk2 : ((8 * l.length : Nat) : Int) = 8 * (l.length : Int) := by omega
  rw [hmk2] at hmk
  clear hown hgr
  clear hmk2
  go_enter Tryz.func102, Tryz.ntmps102
  go_wp2
  go_loopw [3, 13] (fun v i wr => ∃ (m : Nat) (G : Option Addr) (gc : Nat), m ≤ l.length ∧ i = .int .i64 (m : Int) ∧ v = .slice G (8 * m) gc ∧ Got w wr G (8 * m) gc (wflat (l.take m))) (fun _ i _ => l.length - (intOf i).toNat)
  case atStart => exact ⟨0, _, _, Nat.zero_le _, rfl, rfl, HOW.out⟩
  case round =>
    obtain ⟨m, G, gc, hm, rfl, rfl, hgot⟩ := hrel
    by_cases hlt : m < l.length
    · obtain ⟨b, o, rfl, hb, hcell0⟩ := H.out.at' m hlt
      have hcell := (hgot.2.cell (p := ⟨b, o + m, none⟩) hb).trans hcell0
      have hx := H.out.u64 _ (List.getElem_mem hlt)
      have HR := Lib.hid (wflat_take hlt)
      have HG := Lib.hid hgot
      generalize l[m] = x at *
      clear hgot hcell0 hmk
      go_wp2
      go_loopw [3, 17] (fun v i w2 => ∃ (j : Nat) (G : Option Addr) (gc : Nat), j ≤ 8 ∧ i = .int .i64 (j : Int) ∧ v = .slice G (8 * m + j) gc ∧ Got w w2 G (8 * m + j) gc (wflat (l.take m) ++ (wb x).take j)) (fun _ i _ => 8 - (intOf i).toNat)
      case atStart => exact ⟨0, G, gc, Nat.zero_le _, rfl, rfl, by simpa using HG.out⟩
      case round =>
        obtain ⟨j, G2, gc2, hj, rfl, rfl, hgot2⟩ := hrel
        by_cases hjl : j < 8
        · have hjw : j < (wb x).length := by rw [wb_len]; exact hjl
          have e1 : (wb x).take (j + 1) = (wb x).take j ++ [x / 256 ^ j % 256] := by rw [List.take_succ_eq_append_getElem hjw, wb_get]
          have hyl : x / 256 ^ j < 18446744073709551616 := Nat.lt_of_le_of_lt (Nat.div_le_self _ _) hx
          have hsh : (x : Int) / 2 ^ (j * 8) = ((x / 256 ^ j : Nat) : Int) := by
            have : 256 ^ j = 2 ^ (j * 8) := by rw [Nat.mul_comm j 8, Nat.pow_mul]
            rw [this]
            simp
          have HE1 := Lib.hid e1
          generalize x / 256 ^ j = y at *
          have HOWN := Lib.hid (hgot2.1.alloc (.cells #[.int .u8 ((y : Int) % 256)] 5))
          have HB2 := Lib.hid hgot2.2
          have HRW := Lib.hid hgot2.1
          clear hgot2 e1
          go_wp2_with (at_builtin; refine wpList_append_own_at _ rfl (.tmp 20) (.tmp 26) 170 rfl w.heap.size 5 i0 (.int .u8 0) 1 1 Tryz.underlying170 hi0 hz0 hz1 hz2 rfl (by decide) (.slice G2 (8 * m + j) gc2) (8 * m + j) (u8s (wflat (l.take m) ++ (wb x).take j)) rfl HOWN.out ⟨wr.heap.size, 0, none⟩ 1 1 [.int .u8 ((y : Int) % 256)] rfl rfl (cell_one_new _ _ _) (by simp [Value.oneCell']) (by unfold maxLen; omega) (by omega) (by have := HB2.out.size; simp; omega) ?_
                       intro v' w3 hown3 hgr3 _ _
                       obtain ⟨G', gc', rfl⟩ := row_slice hown3
                       have HO3 := Lib.hid hown3
                       have HG3 := Lib.hid hgr3
                       clear hown3 hgr3)
          refine ⟨⟨j + 1, G', gc', by omega, by go_num, rfl, ?_, ?_⟩, by simp [intOf]; omega⟩
          · have e : u8s (wflat (l.take m) ++ (wb x).take (j + 1)) = u8s (wflat (l.take m) ++ (wb x).take j) ++ [.int .u8 ((y : Int) % 256)] := by
              rw [HE1.out, ← List.append_assoc]
              simp only [u8s, List.map_append]
              rfl
            rw [e]
            exact HO3.out
          · exact (HB2.out.alloc HB2.out.size _).grown HG3.out (by have := HB2.out.size; simp; omega) (fun k hk => row_base_lt HRW.out hk)
        · obtain rfl : j = 8 := by omega
          rw [List.take_of_length_le (l := wb x) (by rw [wb_len]; exact Nat.le_refl _), ← HR.out] at hgot2
          have HG2 := Lib.hid hgot2
          clear hgot2
          go_wp2
          exact ⟨⟨m + 1, G2, gc2, by omega, by go_num, rfl, HG2.out⟩, by simp [intOf]; omega⟩
    · obtain rfl : m = l.length := by omega
      rw [List.take_length] at hgot
      have HW := Lib.hid (own_bts hgot.1 (wflat_byt l) (by omega))
      have HC := Lib.hid (row_cap hgot.1)
      have HB := Lib.hid hgot.2
      clear hgot hmk
      go_wp2
      go_ret
      exact ⟨G, gc, rfl, HC.out, HW.out, HB.out⟩
end
end Pack
end Go.Proofs.YtilolepbfmcbgaaGreatDoor
/- The program's words of bytes, and the document's. -/
namespace Go.Proofs.YtilolepbfmcbgaaGreatDoor
open Go.RowKit Go.MapKept
namespace Pack

/-- a word behind k bytes -/
def cellOf (b : List Nat) (k i : Nat) : Value := .int .u64 ((part b i (min 8 (k - 8 * i)) : Nat) : Int)

theorem cellOf_step {b : List Nat} {k : Nat} (_h : k < b.length) (j : Nat) : (if j = k / 8 then Value.int .u64 ((part b (k / 8) (k % 8) + at0 b k * 256 ^ (k % 8) : Nat) : Int) else cellOf b k j) = cellOf b (k + 1) j := by
  unfold cellOf
  by_cases h : j = k / 8
  · subst h
    have e1 : min 8 (k + 1 - 8 * (k / 8)) = k % 8 + 1 := by omega
    have e2 : 8 * (k / 8) + k % 8 = k := by omega
    rw [if_pos rfl, e1, part, e2]
  · rw [if_neg h]
    have e1 : min 8 (k + 1 - 8 * j) = min 8 (k - 8 * j) := by omega
    rw [e1]

theorem row_words {W : World} {g : Nat} {b : List Nat} (h : W.rowIs g 121 ((b.length + 7) / 8) (cellOf b b.length)) (hb : Byt b) (hn : b.length ≤ 9223372036854775807) : Wds W (some ⟨g, 0, none⟩) (wrds b) :=
  ⟨wrds_u64 hb, by rw [wrds_len]; omega, fun j hj => ⟨g, 0, rfl, h.lt, by
    rw [wrds_get]
    rw [wrds_len] at hj
    rw [Nat.zero_add, h.cell hj]
    unfold cellOf
    by_cases h8 : 8 ≤ b.length - 8 * j
    · rw [Nat.min_eq_left h8]
    · rw [Nat.min_eq_right (by omega)]
      have := part_end (b := b) (i := j) (j := b.length - 8 * j) (by omega) (8 - (b.length - 8 * j))
      rw [← this]
      congr 4
      omega⟩⟩

section
variable {w : World}
set_option maxHeartbeats 1600000 in
set_option maxRecDepth 100000 in
theorem words_any (A : Option Addr) (c : Nat) (l : List Nat) (h : Bts w A l) (hlen : l.length ≤ 1000000000000) :
    Calls Tryz.prog 164 #[.slice A l.length c] w fun e w' => ∃ (G : Option Addr) (gc : Nat), e = .returned (.slice G (wrds l).length gc) ∧ Wds w' G (wrds l) ∧ Below w.heap.size w w' := by
  have H := Lib.hid h
  clear h
  have HN := Lib.hid (wrds_len l)
  obtain ⟨n, hn⟩ : ∃ n, n = (l.length + 7) / 8 := ⟨_, rfl⟩
  have hmk := run_make_row' (P := Tryz.prog) 22 121 _ 8 Tryz.underlying22 u64_info rfl .i64 .i64 n (by omega) (by omega) w
  have hrow : (w.alloc (.cells (madeCells #[.int .u64 0] n) 121)).rowIs w.heap.size 121 n (cellOf l 0) := (World.rowIs_made w (.int .u64 0) n 121).congr (fun i _ => by simp [cellOf, part])
  have hbel : Below w.heap.size w (w.alloc (.cells (madeCells #[.int .u64 0] n) 121)) := (Below.refl _ _).alloc (Nat.le_refl _) _
  have HR := Lib.hid hrow
  have HB := Lib.hid hbel
  generalize w.alloc (.cells (madeCells #[.int .u64 0] n) 121) = w1 at *
  clear hrow hbel
  have hq : ((l.length : Int) + 8 - 1) / 8 = (n : Int) := by omega
  rw [← hq] at hmk
  have HNN := Lib.hid hn
  clear hn hq
  go_enter Tryz.func164, Tryz.ntmps164
  go_wp2
  go_loopw [14] (fun i wr => ∃ (k : Nat), k ≤ l.length ∧ i = .int .i64 (k : Int) ∧ wr.rowIs w.heap.size 121 n (cellOf l k) ∧ Below w.heap.size w wr) (fun i _ => l.length - (intOf i).toNat)
  case atStart => exact ⟨0, Nat.zero_le _, rfl, HR.out, HB.out⟩
  case round =>
    obtain ⟨k, hk, rfl, hrow, hbel⟩ := hrel
    have hn := HNN.out
    by_cases hlt : k < l.length
    · obtain ⟨b, o, rfl, hb, hcell⟩ := H.out.at' k hlt
      have hca := (hbel.cell (p := ⟨b, o + k, none⟩) hb).trans hcell
      clear hcell
      have hxb : l[k] < 256 := H.out.byt _ (List.getElem_mem hlt)
      have HS := Lib.hid (cellOf_step hlt)
      rw [at0_get hlt] at HS
      have hdn : k / 8 < n := by omega
      have hc0 := hrow.cell hdn
      have hf0 := hrow.frozen (k / 8)
      have hpl := part_lt H.out.byt (k / 8) (k % 8)
      have hmin : min 8 (k - 8 * (k / 8)) = k % 8 := by omega
      unfold cellOf at hc0
      rw [hmin] at hc0
      generalize part l (k / 8) (k % 8) = y at *
      generalize l[k] = x at *
      have ht : 256 ^ (k % 8) = 2 ^ (k % 8 * 8) := by rw [Nat.mul_comm (k % 8) 8, Nat.pow_mul]
      rw [ht] at hpl HS
      have ho := or_field y x (k % 8 * 8) 8 hpl (by omega) (by omega)
      have HW := Lib.hid hrow
      have HBW := Lib.hid hbel
      clear hrow hbel ht hmin
      have hwd : IntKind.wrap .i64 ((k : Int) / 8) = ((k / 8 : Nat) : Int) := by rw [IntKind.wrap_i64]; omega
      have hwt : IntKind.wrap .i64 ((k : Int) % 8 * 8) = ((k % 8 * 8 : Nat) : Int) := by rw [IntKind.wrap_i64]; omega
      have hwm : (k : Int) % 8 * 8 = ((k % 8 * 8 : Nat) : Int) := by omega
      have he : (k : Int) / 8 = ((k / 8 : Nat) : Int) := rfl
      have hel : ((k / 8 : Nat) : Int) < (n : Int) := by omega
      have hel0 : (0 : Int) ≤ ((k / 8 : Nat) : Int) := by omega
      have hfl : k % 8 * 8 ≤ 56 := by omega
      clear hn hmk
      generalize k % 8 * 8 = T at *
      generalize k / 8 = d at *
      have hwd2 : IntKind.wrap .i64 (d : Int) = (d : Int) := by rw [IntKind.wrap_i64]; omega
      have hwT2 : IntKind.wrap .i64 (T : Int) = (T : Int) := by rw [IntKind.wrap_i64]; omega
      have hT0 : (0 : Int) ≤ (T : Int) := by omega
      have hT1 : (T : Int) < 64 := by omega
      go_wp2
      go_region
      clear hwd hwt hwm he hwd2 hwT2
      go_wp2
      refine ⟨⟨k + 1, by omega, by go_num, ?_, (HBW.out.setCell (p := ⟨w.heap.size, d, none⟩) (Nat.le_refl _) _).drew⟩, by simp [intOf]; omega⟩
      have h2 := (HW.out.set d (.int .u64 ((y + x * 2 ^ T : Nat) : Int))).congr (fun j _ => HS.out j)
      have h3 := h2.drew
      simpa using h3
    · obtain rfl : k = l.length := by omega
      rw [HNN.out] at hrow
      have HW := Lib.hid (row_words hrow H.out.byt (by omega))
      have HBW := Lib.hid hbel
      clear hrow hbel hmk hn
      go_wp2
      go_ret
      refine ⟨_, n, ?_, HW.out, HBW.out⟩
      rw [HN.out, ← HNN.out]
      rfl
end
end Pack
end Go.Proofs.YtilolepbfmcbgaaGreatDoor
/- A superblock as a list of words: a geometry's, and whose a list is. -/
namespace Go.Proofs.YtilolepbfmcbgaaGreatDoor
open Go.RowKit Go.MapKept
namespace Sup

/-- the text's word -/
def magic : Nat := 3544409100874826051
/-- the text's bytes -/
def txt : List Nat := [67, 65, 78, 84, 76, 69, 48, 49]
theorem magic_lt : magic < 18446744073709551616 := by decide
theorem txt_word : Pack.wrds txt = [magic] := by decide

/-- the numbers' word -/
def nums (n m s : Nat) : Nat := n + 65536 * m + 4294967296 * s
/-- the words ahead of the sum -/
def front (n m s : Nat) : List Nat := [magic, nums n m s, 0, 0, 0, 0, 0]
/-- their sum -/
def sum (n m s : Nat) : Nat := Crc.S32 (Crc.wflat (front n m s))
/-- the superblock -/
def sb (n m s : Nat) : List Nat := [magic, nums n m s, 0, 0, 0, 0, 0, sum n m s]

theorem sb_len (n m s : Nat) : (sb n m s).length = 8 := rfl
theorem front_len (n m s : Nat) : (front n m s).length = 7 := rfl

theorem nums_lt {n m s : Nat} (hn : n < 65536) (hm : m < 65536) (hs : s < 65536) : nums n m s < 281474976710656 := by unfold nums; omega

theorem s32_lt (l : List Nat) : Crc.S32 l < 4294967296 := by
  unfold Crc.S32
  omega
theorem sum_lt (n m s : Nat) : sum n m s < 4294967296 := s32_lt _

theorem sb_u64 {n m s : Nat} (hn : n < 65536) (hm : m < 65536) (hs : s < 65536) : ∀ x ∈ sb n m s, x < 18446744073709551616 := by
  intro x hx
  have h1 := nums_lt hn hm hs
  have h2 := sum_lt n m s
  have h3 := magic_lt
  simp only [sb, List.mem_cons, List.not_mem_nil, or_false] at hx
  rcases hx with rfl | rfl | rfl | rfl | rfl | rfl | rfl | rfl <;> omega

theorem pk_nums {n m s : Nat} (hn : n < 65536) (hm : m < 65536) (hs : s < 65536) : Pack.pk 0 0 [⟨16, n⟩, ⟨16, m⟩, ⟨16, s⟩] = some (nums n m s, 48) := by
  unfold nums
  simp [Pack.pk, hn, hm, hs]
  omega

theorem split_nums (x : Nat) : Pack.split x [16, 16, 16] = if x < 281474976710656 then some [x % 65536, x / 65536 % 65536, x / 4294967296 % 65536] else none := by
  have h : Pack.tot 0 [16, 16, 16] = some 48 := by decide
  unfold Pack.split
  rw [h]
  have e : (2 : Nat) ^ 48 = 281474976710656 := rfl
  simp only [e]
  by_cases hx : x < 281474976710656
  · have : x / 281474976710656 = 0 := by omega
    simp [hx, this, Pack.sp]
    omega
  · have : ¬ x / 281474976710656 = 0 := by omega
    simp [hx, this]

/-- whose it is -/
def dec (l : List Nat) : Option (Nat × Nat × Nat) :=
  let x : Nat := l[1]?.getD 0
  let n : Nat := x % 65536
  let m : Nat := x / 65536 % 65536
  let s : Nat := x / 4294967296
  if l.length = 8 ∧ x < 281474976710656 ∧ Geo.may n m s = true ∧ l = sb n m s then some (n, m, s) else none

theorem may_lt {n m s : Nat} (h : Geo.may n m s = true) : n < 65536 ∧ m < 65536 ∧ s < 65536 := by
  obtain ⟨⟨h1, h2, h3⟩, _⟩ := Geo.may_num h
  have := h3.bounds
  omega

theorem dec_sb {n m s : Nat} (h : Geo.may n m s = true) : dec (sb n m s) = some (n, m, s) := by
  obtain ⟨h1, h2, h3⟩ := may_lt h
  have h4 := nums_lt h1 h2 h3
  have e1 : nums n m s % 65536 = n := by unfold nums; omega
  have e2 : nums n m s / 65536 % 65536 = m := by unfold nums; omega
  have e3 : nums n m s / 4294967296 = s := by unfold nums; omega
  have e : (sb n m s)[1]?.getD 0 = nums n m s := rfl
  unfold dec
  simp only [e, e1, e2, e3]
  exact if_pos ⟨rfl, h4, h, trivial⟩

theorem dec_some {l : List Nat} {n m s : Nat} (h : dec l = some (n, m, s)) : Geo.may n m s = true ∧ l = sb n m s := by
  unfold dec at h
  simp only at h
  split at h
  · rename_i hc
    injection h with h
    injection h with h1 h2
    injection h2 with h2 h3
    subst h1 h2 h3
    exact hc.2.2
  · cases h

/-- what is no superblock of one that may be -/
theorem dec_none {l : List Nat} (h : ∀ n m s : Nat, Geo.may n m s = true → l ≠ sb n m s) : dec l = none := by
  cases e : dec l with
  | none => rfl
  | some q =>
    obtain ⟨n, m, s⟩ := q
    have := dec_some e
    exact absurd this.2 (h n m s this.1)
end Sup
end Go.Proofs.YtilolepbfmcbgaaGreatDoor
/- The program's superblock of a geometry. -/
namespace Go.Proofs.YtilolepbfmcbgaaGreatDoor
open Go.RowKit Go.MapKept
namespace Sup

theorem number_any (w : World) (n : Nat) (h : n < 65536) :
    Calls Tryz.prog 165 #[.int .i64 (n : Int)] w fun r w' => r = .returned (.agg #[.int .i64 16, .int .u64 (n : Int)]) ∧ Below w.heap.size w w' := by
  go_enter Tryz.func165, Tryz.ntmps165
  go_wp2
  refine bodyPost_ret (v := .agg #[.int .i64 16, .int .u64 (n : Int)]) ?_ rfl ⟨rfl, ?_⟩
  · simp [results, Tryz.results165, go_sem]
  · first
    | exact (Below.refl _ _).alloc (Nat.le_refl _) _
    | exact (((Below.refl _ _).alloc (Nat.le_refl _) _).setCell (by simp) _).setCell (by simp) _

/-- words in a row -/
def rowOf (l : List Nat) (i : Nat) : Value := .int .u64 ((l[i]?.getD 0 : Nat) : Int)

/-- the geometry in block b, the words in block g; what was there ahead of N is as it was -/
structure En (w0 : World) (N b g : Nat) (n m s : Int) (l : List Nat) (w : World) : Prop where
  box : Geo.Box w b n m s
  row : w.rowIs g 121 8 (rowOf l)
  bg : b ≠ g
  below : Below N w0 w
  nN : N ≤ g

theorem En.keep {w0 w w' : World} {N b g : Nat} {n m s : Int} {l : List Nat} (h : En w0 N b g n m s l w) (hb : Below w.heap.size w w') (hN : N ≤ w.heap.size) : En w0 N b g n m s l w' :=
  ⟨h.box.keep hb, h.row.of_block (hb.block _ h.row.lt), h.bg, h.below.trans (hb.mono hN), h.nN⟩
theorem En.drew {w0 w : World} {N b g : Nat} {n m s : Int} {l : List Nat} (h : En w0 N b g n m s l w) : En w0 N b g n m s l w.drew :=
  ⟨h.box.drew, h.row.drew, h.bg, h.below.drew, h.nN⟩
theorem cell_set_other {w : World} {p q : Addr} (h : p.block ≠ q.block) (v : Value) : (w.setCell q v).cell? p = w.cell? p := World.cell?_of_block (w := w) (Below.heap_setCell w q v p.block h)
theorem En.set {w0 w : World} {N b g : Nat} {n m s : Int} {l l' : List Nat} (h : En w0 N b g n m s l w) (i x : Nat) (e : ∀ j, j < 8 → (if j = i then x else l[j]?.getD 0) = l'[j]?.getD 0) : En w0 N b g n m s l' (w.setCell ⟨g, i, none⟩ (.int .u64 (x : Int))) :=
  ⟨⟨by simpa using h.box.lt, (cell_set_other h.bg _).trans h.box.c0, (cell_set_other h.bg _).trans h.box.c1, (cell_set_other h.bg _).trans h.box.c2⟩,
   (h.row.set i (.int .u64 (x : Int))).congr (fun j hj => by
    have := e j hj
    unfold rowOf
    rw [← this]
    split <;> rfl), h.bg, h.below.setCell h.nN _, h.nN⟩

theorem set_magic (j : Nat) (h : j < 8) : (if j = 0 then magic else ([] : List Nat)[j]?.getD 0) = [magic][j]?.getD 0 := by
  match j, h with
  | 0, _ => rfl
  | j + 1, _ => simp
theorem set_nums (x : Nat) (j : Nat) (h : j < 8) : (if j = 1 then x else [magic][j]?.getD 0) = [magic, x][j]?.getD 0 := by
  match j, h with
  | 0, _ => rfl
  | 1, _ => rfl
  | j + 2, _ => simp
theorem set_sum (x y : Nat) (j : Nat) (h : j < 8) : (if j = 7 then y else [magic, x][j]?.getD 0) = [magic, x, 0, 0, 0, 0, 0, y][j]?.getD 0 := by
  have : j = 0 ∨ j = 1 ∨ j = 2 ∨ j = 3 ∨ j = 4 ∨ j = 5 ∨ j = 6 ∨ j = 7 := by omega
  rcases this with rfl | rfl | rfl | rfl | rfl | rfl | rfl | rfl <;> rfl

theorem row_crc {w : World} {g : Nat} {l k : List Nat} (h : w.rowIs g 121 8 (rowOf l)) (hk : k.length ≤ 8) (hu : ∀ x ∈ k, x < 18446744073709551616) (e : ∀ j (h : j < k.length), l[j]?.getD 0 = k[j]) : Crc.Wds w (some ⟨g, 0, none⟩) k :=
  ⟨hu, by omega, fun j hj => ⟨g, 0, rfl, h.lt, by
    rw [Nat.zero_add, h.cell (by omega)]
    unfold rowOf
    rw [e j hj]⟩⟩
theorem row_pack {w : World} {g : Nat} {l : List Nat} (h : w.rowIs g 121 8 (rowOf l)) (hk : l.length = 8) (hu : ∀ x ∈ l, x < 18446744073709551616) : Pack.Wds w (some ⟨g, 0, none⟩) l :=
  ⟨hu, by omega, fun j hj => ⟨g, 0, rfl, h.lt, by
    rw [Nat.zero_add, h.cell (by omega)]
    unfold rowOf
    rw [List.getElem?_eq_getElem hj]
    rfl⟩⟩

theorem front_crc {w : World} {g n m s : Nat} (h : w.rowIs g 121 8 (rowOf [magic, nums n m s])) (hn : n < 65536) (hm : m < 65536) (hs : s < 65536) : Crc.Wds w (some ⟨g, 0, none⟩) (front n m s) := by
  refine row_crc h (by rw [front_len]; omega) ?_ ?_
  · intro x hx
    have h1 := nums_lt hn hm hs
    have h3 := magic_lt
    simp only [front, List.mem_cons, List.not_mem_nil, or_false] at hx
    rcases hx with rfl | rfl | rfl | rfl | rfl | rfl | rfl <;> omega
  · intro j hj
    have : j < 7 := hj
    have : j = 0 ∨ j = 1 ∨ j = 2 ∨ j = 3 ∨ j = 4 ∨ j = 5 ∨ j = 6 := by omega
    rcases this with rfl | rfl | rfl | rfl | rfl | rfl | rfl <;> rfl

theorem bts_txt (w : World) : Pack.Bts (w.alloc (.cells #[.int .u8 67, .int .u8 65, .int .u8 78, .int .u8 84, .int .u8 76, .int .u8 69, .int .u8 48, .int .u8 49] 5 (8, 9))) (some ⟨w.heap.size, 0, none⟩) txt :=
  ⟨by unfold Pack.Byt; decide, by decide, fun j hj => ⟨w.heap.size, 0, rfl, by simp, by
    rw [World.cell?_alloc_mark, Nat.zero_add]
    have : j < 8 := hj
    match j, this with
    | 0, _ => rfl
    | 1, _ => rfl
    | 2, _ => rfl
    | 3, _ => rfl
    | 4, _ => rfl
    | 5, _ => rfl
    | 6, _ => rfl
    | 7, _ => rfl⟩⟩

/-- the text's word -/
theorem txt_any (w : World) : Calls Tryz.prog 164 #[.slice (some ⟨w.heap.size, 0, none⟩) 8 8] (w.alloc (.cells #[.int .u8 67, .int .u8 65, .int .u8 78, .int .u8 84, .int .u8 76, .int .u8 69, .int .u8 48, .int .u8 49] 5 (8, 9))) fun e w' => ∃ (b o gc : Nat), e = .returned (.slice (some ⟨b, o, none⟩) 1 gc) ∧ w'.cell? ⟨b, o, none⟩ = some (.int .u64 (magic : Int)) ∧ Below w.heap.size w w' := by
  refine (Pack.words_any _ 8 _ (bts_txt w) (by decide)).mono ?_
  rintro e w' ⟨G, gc, rfl, hw, hb⟩
  rw [txt_word] at hw ⊢
  obtain ⟨b, o, rfl, _, hc⟩ := hw.at' 0 (by decide)
  have hb0 := (Below.refl w.heap.size w).alloc (Nat.le_refl _) (.cells #[.int .u8 67, .int .u8 65, .int .u8 78, .int .u8 84, .int .u8 76, .int .u8 69, .int .u8 48, .int .u8 49] 5 (8, 9))
  exact ⟨b, o, gc, rfl, hc, hb0.trans (hb.mono hb0.size)⟩

theorem fds_three (w : World) {n m s : Nat} (hn : n < 65536) (hm : m < 65536) (hs : s < 65536) : Pack.Fds (w.alloc (.cells #[.int .i64 16, .int .u64 (n : Int), .int .i64 16, .int .u64 (m : Int), .int .i64 16, .int .u64 (s : Int)] 162)) (some ⟨w.heap.size, 0, none⟩) [⟨16, n⟩, ⟨16, m⟩, ⟨16, s⟩] :=
  ⟨fun f hf => by
    simp only [List.mem_cons, List.not_mem_nil, or_false] at hf
    rcases hf with rfl | rfl | rfl <;> exact ⟨by simp only; omega, by simp only; omega, by simp only; omega⟩, by simp, fun j hj => by
    have : j < 3 := hj
    match j, this with
    | 0, _ => exact ⟨w.heap.size, 0, rfl, by simp, Pack.alloc_cell _ _ _ _, Pack.alloc_cell _ _ _ _⟩
    | 1, _ => exact ⟨w.heap.size, 0, rfl, by simp, Pack.alloc_cell _ _ _ _, Pack.alloc_cell _ _ _ _⟩
    | 2, _ => exact ⟨w.heap.size, 0, rfl, by simp, Pack.alloc_cell _ _ _ _, Pack.alloc_cell _ _ _ _⟩⟩

theorem nums_any (w : World) {n m s : Nat} (hn : n < 65536) (hm : m < 65536) (hs : s < 65536) : Calls Tryz.prog 92 #[.slice (some ⟨w.heap.size, 0, none⟩) 3 3] (w.alloc (.cells #[.int .i64 16, .int .u64 (n : Int), .int .i64 16, .int .u64 (m : Int), .int .i64 16, .int .u64 (s : Int)] 162)) fun e w' => e = .returned (.tuple #[.int .u64 (nums n m s : Nat), .bool true]) ∧ Below w.heap.size w w' := by
  refine (Pack.pack_any _ 3 _ (fds_three w hn hm hs)).mono ?_
  rintro e w' ⟨rfl, hb⟩
  rw [pk_nums hn hm hs]
  have hb0 := (Below.refl w.heap.size w).alloc (Nat.le_refl _) (.cells #[.int .i64 16, .int .u64 (n : Int), .int .i64 16, .int .u64 (m : Int), .int .i64 16, .int .u64 (s : Int)] 162)
  exact ⟨rfl, hb0.trans (hb.mono hb0.size)⟩
end Sup
end Go.Proofs.YtilolepbfmcbgaaGreatDoor
/- Encode, walked. -/
namespace Go.Proofs.YtilolepbfmcbgaaGreatDoor
open Go.RowKit Go.MapKept
namespace Sup

theorem encode_no (w : World) (n m s : Int) (hm : Geo.may n m s = false) :
    Calls Tryz.prog 145 #[.agg #[.int .i64 n, .int .i64 m, .int .i64 s]] w fun r w' => r = .returned (.tuple #[.slice none 0 0, .int .i64 1]) ∧ Below w.heap.size w w' := by
  have HM := Lib.hid (fun w => Geo.may_any w n m s)
  have HE := Lib.hid hm
  clear hm
  have HB := Lib.hid ((Below.refl w.heap.size w).alloc (Nat.le_refl _) (.cells #[.int .i64 n, .int .i64 m, .int .i64 s] 85))
  go_enter Tryz.func145, Tryz.ntmps145
  go_wp2_with fail
  refine (HM.out _).mono ?_
  rintro e w' ⟨rfl, hb⟩
  rw [HE.out]
  have HB1 := Lib.hid (HB.out.trans (hb.mono HB.out.size))
  clear hb
  go_wp2
  go_ret2
  exact ⟨rfl, HB1.out⟩

set_option maxHeartbeats 2000000 in
set_option maxRecDepth 100000 in
theorem encode_yes (w : World) (n m s : Nat) (hm : Geo.may n m s = true) :
    Calls Tryz.prog 145 #[.agg #[.int .i64 (n : Int), .int .i64 (m : Int), .int .i64 (s : Int)]] w fun r w' => ∃ g : Nat, w.heap.size ≤ g ∧ r = .returned (.tuple #[.slice (some ⟨g, 0, none⟩) 8 8, .int .i64 0]) ∧ w'.rowIs g 121 8 (rowOf (sb n m s)) ∧ Below w.heap.size w w' := by
  obtain ⟨h1, h2, h3⟩ := may_lt hm
  have HM := Lib.hid (fun w => Geo.may_any w n m s)
  have HE := Lib.hid hm
  clear hm
  have HN1 := Lib.hid (fun w => number_any w n h1)
  have HN2 := Lib.hid (fun w => number_any w m h2)
  have HN3 := Lib.hid (fun w => number_any w s h3)
  have HP := Lib.hid (fun w => nums_any w h1 h2 h3)
  have HT := Lib.hid txt_any
  have HB := Lib.hid ((Below.refl w.heap.size w).alloc (Nat.le_refl _) (.cells #[.int .i64 (n : Int), .int .i64 (m : Int), .int .i64 (s : Int)] 85))
  have HX := Lib.hid (Geo.boxed w n m s 85)
  go_enter Tryz.func145, Tryz.ntmps145
  go_wp2_with fail
  refine (HM.out _).mono ?_
  rintro e w1 ⟨rfl, hb⟩
  rw [HE.out]
  have HB1 := Lib.hid (HB.out.trans (hb.mono HB.out.size))
  have HX1 := Lib.hid (HX.out.keep hb)
  have hsz : w.heap.size < w1.heap.size := HX1.out.lt
  clear hb HX
  -- the words' memory
  have hmk := run_make_row' (P := Tryz.prog) 22 121 _ 8 Tryz.underlying22 Pack.u64_info rfl .i64 .i64 8 (by omega) (by omega) w1
  rw [show ((8 : Nat) : Int) = 8 from rfl] at hmk
  have hrow : (w1.alloc (.cells (madeCells #[.int .u64 0] 8) 121)).rowIs w1.heap.size 121 8 (rowOf []) := (World.rowIs_made w1 (.int .u64 0) 8 121).congr (fun i _ => by simp [rowOf])
  have hb2 := (Below.refl w1.heap.size w1).alloc (Nat.le_refl _) (.cells (madeCells #[.int .u64 0] 8) 121)
  have HE2 := Lib.hid (show En w w.heap.size w.heap.size w1.heap.size n m s [] (w1.alloc (.cells (madeCells #[.int .u64 0] 8) 121)) from ⟨HX1.out.keep hb2, hrow, by omega, HB1.out.trans (hb2.mono HB1.out.size), HB1.out.size⟩)
  clear hrow hb2 HX1 HB1 HB HM HE
  generalize w1.alloc (.cells (madeCells #[.int .u64 0] 8) 121) = w2 at *
  generalize hg : w1.heap.size = g at *
  clear hg
  have hs2 : w.heap.size < w2.heap.size := HE2.out.box.lt
  have hcv := Crc.conv_new w2 #[.int .u8 67, .int .u8 65, .int .u8 78, .int .u8 84, .int .u8 76, .int .u8 69, .int .u8 48, .int .u8 49] 8 8
  go_wp2_with fail
  refine (HT.out _).mono ?_
  rintro e w3 ⟨b, o, gc, rfl, hc, hb⟩
  have HE3 := Lib.hid (HE2.out.keep hb (by omega))
  have hs3 : w.heap.size < w3.heap.size := HE3.out.box.lt
  have hrc := HE3.out.row.cell (i := 0) (by omega)
  have hrf := HE3.out.row.frozen 0
  clear hb hcv hs2 HE2 hmk
  go_wp2
  have HE4 := Lib.hid (HE3.out.set 0 magic set_magic)
  clear hrc hrf hs3 HE3
  generalize w3.setCell ⟨g, 0, none⟩ (.int .u64 (magic : Int)) = w4 at *
  have hs4 : w.heap.size < w4.heap.size := HE4.out.box.lt
  have HS4 := Lib.hid hs4
  have hc0 := HE4.out.box.c0
  have hc1 := HE4.out.box.c1
  have hc2 := HE4.out.box.c2
  clear hc
  go_region_held3 (fun W' => W'.cell? ⟨w.heap.size, 0, none⟩ = some (.int .i64 (n : Int)) ∧ W'.cell? ⟨w.heap.size, 1, none⟩ = some (.int .i64 (m : Int)) ∧ W'.cell? ⟨w.heap.size, 2, none⟩ = some (.int .i64 (s : Int))) (go_keep)
    (first
    | (go_at_call 165
       with_reducible refine (HN1.out _).mono ?_
       rintro e w5 ⟨rfl, hb⟩
       have HE5 := Lib.hid (HE4.out.drew.keep hb (Nat.le_of_lt HE4.out.drew.box.lt))
       have hk0 := HE5.out.box.c0
       have hk1 := HE5.out.box.c1
       have hk2 := HE5.out.box.c2
       clear hb)
    | (go_at_call 165
       with_reducible refine (HN2.out _).mono ?_
       rintro e w6 ⟨rfl, hb⟩
       have HE6 := Lib.hid (HE5.out.keep hb (Nat.le_of_lt HE5.out.box.lt))
       have hl0 := HE6.out.box.c0
       have hl1 := HE6.out.box.c1
       have hl2 := HE6.out.box.c2
       clear hb)
    | (go_at_call 165
       with_reducible refine (HN3.out _).mono ?_
       rintro e w7 ⟨rfl, hb⟩
       have HE7 := Lib.hid (HE6.out.keep hb (Nat.le_of_lt HE6.out.box.lt))
       have hm0 := HE7.out.box.c0
       have hm1 := HE7.out.box.c1
       have hm2 := HE7.out.box.c2
       clear hb)
    | (go_at_call 92
       with_reducible refine (HP.out _).mono ?_
       rintro e w8 ⟨rfl, hb⟩
       have HE8 := Lib.hid (HE7.out.keep hb (Nat.le_of_lt HE7.out.box.lt))
       have hn0 := HE8.out.box.c0
       have hn1 := HE8.out.box.c1
       have hn2 := HE8.out.box.c2
       have hn3 := HE8.out.row.cell (i := 1) (by omega)
       have hn4 := HE8.out.row.frozen 1
       have HE9 := Lib.hid (HE8.out.set 1 (nums n m s) (set_nums _))
       have hq0 := HE9.out.box.c0
       have hq1 := HE9.out.box.c1
       have hq2 := HE9.out.box.c2
       clear hb))
  clear hk0 hk1 hk2 hl0 hl1 hl2 hm0 hm1 hm2 hn0 hn1 hn2 hn3 hn4 hq0 hq1 hq2 hc0 hc1 hc2 HE5 HE6 HE7 HE8 HE4 HN1 HN2 HN3 HP HT
  generalize w8.setCell ⟨g, 1, none⟩ (.int .u64 (nums n m s : Int)) = w9 at *
  have HC := Lib.hid (Crc.words32_any (some ⟨g, 0, none⟩) 8 (front n m s) (front_crc HE9.out.row h1 h2 h3))
  have hsl := sum_lt n m s
  have hrc := HE9.out.row.cell (i := 7) (by omega)
  have hrf := HE9.out.row.frozen 7
  go_wp2_with fail
  refine HC.out.mono ?_
  rintro e w' ⟨rfl, rfl⟩
  rw [show Crc.S32 (Crc.wflat (front n m s)) = sum n m s from rfl]
  go_wp2
  go_ret2
  have h10 := HE9.out.set 7 (sum n m s) (set_sum _ _)
  exact ⟨g, h10.nN, rfl, h10.row, h10.below⟩
end Sup
end Go.Proofs.YtilolepbfmcbgaaGreatDoor
/- Whether two lists of words are the same: the library's Equal. -/
namespace Go.Proofs.YtilolepbfmcbgaaGreatDoor
open Go.RowKit Go.MapKept
namespace Sup
open Pack (Wds)

section
variable {w : World}
set_option maxHeartbeats 1600000 in
set_option maxRecDepth 100000 in
theorem equal_any (A B : Option Addr) (c d : Nat) (l m : List Nat) (h : Wds w A l) (g : Wds w B m) :
    Calls Tryz.prog 154 #[.slice A l.length c, .slice B m.length d] w fun e w' => e = .returned (.bool (decide (l = m))) ∧ ∃ n, w' = w.drewN n := by
  have hn := h.len
  have hm := g.len
  have H := Lib.hid h
  have G := Lib.hid g
  clear h g
  by_cases hlen : l.length = m.length
  · go_enter Tryz.func154, Tryz.ntmps154
    go_wp2
    go_loopw [13] (fun i wr => ∃ (k n : Nat), k ≤ l.length ∧ i = .int .i64 (k : Int) ∧ l.take k = m.take k ∧ wr = w.drewN n) (fun i _ => l.length - (intOf i).toNat)
    case atStart => exact ⟨0, 0, Nat.zero_le _, rfl, rfl, rfl⟩
    case round =>
      obtain ⟨k, n, hk, rfl, hs, rfl⟩ := hrel
      have HS := Lib.hid hs
      clear hs
      by_cases hlt : k < l.length
      · have hlt2 : k < m.length := by omega
        obtain ⟨b, o, rfl, hb, hcell⟩ := H.out.at' k hlt
        obtain ⟨b2, o2, rfl, hb2, hcell2⟩ := G.out.at' k hlt2
        have hi0 : (0 : Int) ≤ (k : Int) := by omega
        have hi1 : (k : Int) < (l.length : Int) := by omega
        have hi2 : (k : Int) < (m.length : Int) := by omega
        have HE := Lib.hid (show l.take (k + 1) = m.take (k + 1) ↔ l[k] = m[k] by
          rw [List.take_succ_eq_append_getElem hlt, List.take_succ_eq_append_getElem (l := m) hlt2, HS.out, List.append_right_inj]
          simp)
        generalize l[k] = x at *
        generalize m[k] = y at *
        by_cases hxy : x = y
        · subst hxy
          have HE1 := Lib.hid (HE.out.2 rfl)
          clear HE
          go_wp2
          go_quiet (fail)
          go_wp2
          refine ⟨⟨k + 1, n + nq, by omega, by go_num, HE1.out, rfl⟩, by simp [intOf]; omega⟩
        · have hne : ¬ (x : Int) = (y : Int) := by omega
          go_wp2
          go_quiet (fail)
          go_wp2
          go_ret
          refine ⟨?_, n + nq, World.drewN_drewN _ _ _⟩
          have : ¬ l = m := fun h => hxy (HE.out.1 (by rw [h]))
          rw [decide_eq_false this]
          rfl
      · obtain rfl : k = l.length := by omega
        have he : l = m := by
          have := HS.out
          rwa [List.take_length, hlen, List.take_length] at this
        go_wp2
        go_ret
        refine ⟨?_, n, rfl⟩
        rw [decide_eq_true he]
        rfl
  · have hne : ¬ (l.length : Int) = (m.length : Int) := by omega
    have hlm : ¬ l = m := fun h => hlen (by rw [h])
    go_enter Tryz.func154, Tryz.ntmps154
    go_wp2
    go_ret
    refine ⟨?_, 0, rfl⟩
    rw [decide_eq_false hlm]
    rfl

end
end Sup
end Go.Proofs.YtilolepbfmcbgaaGreatDoor
/- Decode, walked. -/
namespace Go.Proofs.YtilolepbfmcbgaaGreatDoor
open Go.RowKit Go.MapKept
namespace Sup

/-- a geometry, zero if there is none -/
def gv : Option (Nat × Nat × Nat) → Value
  | some (n, m, s) => .agg #[.int .i64 (n : Int), .int .i64 (m : Int), .int .i64 (s : Int)]
  | none => .agg #[.int .i64 0, .int .i64 0, .int .i64 0]
/-- the error -/
def ev : Option (Nat × Nat × Nat) → Int
  | some _ => 0
  | none => 2

theorem nts_three (w : World) : Pack.Nts (w.alloc (.cells #[.int .i64 16, .int .i64 16, .int .i64 16] 3)) (some ⟨w.heap.size, 0, none⟩) [16, 16, 16] :=
  ⟨fun f hf => by
    obtain rfl : f = 16 := by simpa using hf
    exact ⟨by decide, by decide⟩, by decide, fun j hj => by
    have : j < 3 := hj
    match j, this with
    | 0, _ => exact ⟨w.heap.size, 0, rfl, by simp, Pack.alloc_cell _ _ _ _⟩
    | 1, _ => exact ⟨w.heap.size, 0, rfl, by simp, Pack.alloc_cell _ _ _ _⟩
    | 2, _ => exact ⟨w.heap.size, 0, rfl, by simp, Pack.alloc_cell _ _ _ _⟩⟩

theorem split_no (w : World) (N : Nat) (hN : w.heap.size = N) (x : Nat) (hx : x < 18446744073709551616) (h : ¬ x < 281474976710656) : Calls Tryz.prog 153 #[.int .u64 (x : Int), .slice (some ⟨N, 0, none⟩) 3 3] (w.alloc (.cells #[.int .i64 16, .int .i64 16, .int .i64 16] 3)) fun e w' => ∃ (G : Option Addr) (gc : Nat), e = .returned (.tuple #[.slice G 0 gc, .bool false]) ∧ Below w.heap.size w w' := by
  subst hN
  refine (Pack.split_any x hx _ 3 _ (nts_three w)).mono ?_
  rintro e w' ⟨G, gc, rfl, hw, hb⟩
  have hb0 := (Below.refl w.heap.size w).alloc (Nat.le_refl _) (.cells #[.int .i64 16, .int .i64 16, .int .i64 16] 3)
  rw [split_nums, if_neg h]
  exact ⟨G, gc, rfl, hb0.trans (hb.mono hb0.size)⟩

theorem split_yes (w : World) (N : Nat) (hN : w.heap.size = N) (x : Nat) (h : x < 281474976710656) : Calls Tryz.prog 153 #[.int .u64 (x : Int), .slice (some ⟨N, 0, none⟩) 3 3] (w.alloc (.cells #[.int .i64 16, .int .i64 16, .int .i64 16] 3)) fun e w' => ∃ (b o gc : Nat), e = .returned (.tuple #[.slice (some ⟨b, o, none⟩) 3 gc, .bool true]) ∧ (b < w'.heap.size ∧ w'.cell? ⟨b, o, none⟩ = some (.int .u64 ((x % 65536 : Nat) : Int)) ∧ w'.cell? ⟨b, o + 1, none⟩ = some (.int .u64 ((x / 65536 % 65536 : Nat) : Int)) ∧ w'.cell? ⟨b, o + 2, none⟩ = some (.int .u64 ((x / 4294967296 : Nat) : Int))) ∧ Below w.heap.size w w' := by
  subst hN
  refine (Pack.split_any x (by omega) _ 3 _ (nts_three w)).mono ?_
  rintro e w' ⟨G, gc, rfl, hw, hb⟩
  have hb0 := (Below.refl w.heap.size w).alloc (Nat.le_refl _) (.cells #[.int .i64 16, .int .i64 16, .int .i64 16] 3)
  have e : x / 4294967296 % 65536 = x / 4294967296 := by omega
  rw [split_nums, if_pos h, e] at hw ⊢
  simp only [Option.getD_some] at hw
  obtain ⟨b, o, rfl, hlt, hc0⟩ := hw.at' 0 (by simp)
  obtain ⟨b', o', e, _, hc1⟩ := hw.at' 1 (by simp)
  injection e with e
  injection e with e1 e2
  subst e1 e2
  obtain ⟨b', o', e, _, hc2⟩ := hw.at' 2 (by simp)
  injection e with e
  injection e with e1 e2
  subst e1 e2
  exact ⟨b, o, gc, rfl, ⟨hlt, hc0, hc1, hc2⟩, hb0.trans (hb.mono hb0.size)⟩

/-- a geometry of the call's own in block b -/
structure Own (w : World) (b : Nat) (n m s : Int) : Prop where
  box : Geo.Box w b n m s
  f : ∀ o, w.frozen? ⟨b, o, none⟩ = false
theorem Own.keep {w w' : World} {b : Nat} {n m s : Int} (h : Own w b n m s) (hb : Below w.heap.size w w') : Own w' b n m s :=
  ⟨h.box.keep hb, fun o => (hb.frozen (p := ⟨b, o, none⟩) h.box.lt).trans (h.f o)⟩
theorem Own.drew {w : World} {b : Nat} {n m s : Int} (h : Own w b n m s) : Own w.drew b n m s := ⟨h.box.drew, h.f⟩
theorem owned (w : World) (n m s : Int) (t : TypeId) : Own (w.alloc (.cells #[.int .i64 n, .int .i64 m, .int .i64 s] t)) w.heap.size n m s :=
  ⟨Geo.boxed w n m s t, fun o => (World.rowIs_alloc w #[.int .i64 n, .int .i64 m, .int .i64 s] t (fun i => if i = 0 then .int .i64 n else if i = 1 then .int .i64 m else .int .i64 s) (fun i hi => by
    have : i < 3 := hi
    match i, this with
    | 0, _ => rfl
    | 1, _ => rfl
    | 2, _ => rfl)).frozen o⟩

section
variable {w : World}
set_option maxHeartbeats 2000000 in
set_option maxRecDepth 100000 in
theorem decode_any (A : Option Addr) (c : Nat) (l : List Nat) (h : Pack.Wds w A l) :
    Calls Tryz.prog 121 #[.slice A l.length c] w fun r w' => r = .returned (.tuple #[gv (dec l), .int .i64 (ev (dec l))]) ∧ Below w.heap.size w w' := by
  have hlen := h.len
  have HB := Lib.hid ((Below.refl w.heap.size w).alloc (Nat.le_refl _) (.cells #[.int .i64 0, .int .i64 0, .int .i64 0] 85))
  have HX := Lib.hid (owned w 0 0 0 85)
  by_cases hl : l.length = 8
  · rw [hl]
    obtain ⟨b, o, rfl, hb, hcell⟩ := h.at' 1 (by omega)
    have hx := h.u64 l[1] (List.getElem_mem _)
    have HD := Lib.hid (show l[1]?.getD 0 = l[1] by rw [List.getElem?_eq_getElem (by omega)]; rfl)
    have H := Lib.hid h
    have HL := Lib.hid hl
    clear h
    generalize l[1] = x at *
    clear hl
    by_cases h48 : x < 281474976710656
    · obtain ⟨n, hn⟩ : ∃ n, n = x % 65536 := ⟨_, rfl⟩
      obtain ⟨m, hm⟩ : ∃ m, m = x / 65536 % 65536 := ⟨_, rfl⟩
      obtain ⟨s, hs⟩ : ∃ s, s = x / 4294967296 := ⟨_, rfl⟩
      have hn1 : n < 65536 := by omega
      have hm1 : m < 65536 := by omega
      have hs1 : s < 65536 := by omega
      have HS := Lib.hid (split_yes (w.alloc (.cells #[.int .i64 0, .int .i64 0, .int .i64 0] 85)) (w.heap.size + 1) (World.size_alloc _ _) x h48)
      rw [← hn, ← hm, ← hs] at HS
      have HD := Lib.hid (show dec l = if Geo.may n m s = true ∧ l = sb n m s then some (n, m, s) else none by
        unfold dec
        simp only [HD.out, ← hn, ← hm, ← hs]
        by_cases hc : Geo.may n m s = true ∧ l = sb n m s
        · rw [if_pos hc, if_pos ⟨HL.out, h48, hc⟩]
        · rw [if_neg hc, if_neg (fun h => hc h.2.2)])
      clear hn hm hs h48
      go_enter Tryz.func121, Tryz.ntmps121
      go_wp2_with fail
      refine HS.out.mono ?_
      rintro e w1 ⟨b1, o1, gc, rfl, ⟨hb1, hq0, hq1, hq2⟩, hbw⟩
      have HX1 := Lib.hid (HX.out.keep hbw)
      have HB1 := Lib.hid (HB.out.trans (hbw.mono HB.out.size))
      have hz1 : w.heap.size < w1.heap.size := HX1.out.box.lt
      have H1 := Lib.hid (H.out.keep HB1.out)
      have hwn : IntKind.wrap .i64 (n : Int) = (n : Int) := by rw [IntKind.wrap_i64]; omega
      have hwm : IntKind.wrap .i64 (m : Int) = (m : Int) := by rw [IntKind.wrap_i64]; omega
      have hws : IntKind.wrap .i64 (s : Int) = (s : Int) := by rw [IntKind.wrap_i64]; omega
      clear hbw HS HX HB H hcell
      go_wp2
      go_region
      have hba := (Below.refl w1.heap.size w1).alloc (Nat.le_refl _) (.cells #[.int .i64 (n : Int), .int .i64 (m : Int), .int .i64 (s : Int)] 85)
      have HX2 := Lib.hid (HX1.out.keep hba).drew
      have HG2 := Lib.hid (Geo.boxed w1 n m s 85).drew
      have HB2 := Lib.hid (HB1.out.trans (hba.mono HB1.out.size)).drew
      have H2 := Lib.hid (H1.out.keep hba.drew)
      clear hwn hwm hws hba HX1 HB1 H1 hb1 hq0 hq1 hq2
      go_wp2_with fail
      generalize (w1.alloc (.cells #[.int .i64 (n : Int), .int .i64 (m : Int), .int .i64 (s : Int)] 85)).drew = w2 at *
      generalize w1.heap.size = k1 at *
      cases hmay : Geo.may n m s with
      | false =>
        have HN := Lib.hid (show dec l = none by rw [HD.out, if_neg (fun h => by rw [hmay] at h; simp at h)])
        refine (encode_no _ n m s hmay).mono ?_
        rintro e w3 ⟨rfl, hb3⟩
        have HX3 := Lib.hid (HX2.out.keep hb3)
        have HB3 := Lib.hid (HB2.out.trans (hb3.mono HB2.out.size))
        clear hb3 hmay HX2 HB2 H2 HD
        have hc0 := HX3.out.box.c0
        have hc1 := HX3.out.box.c1
        have hc2 := HX3.out.box.c2
        have hf0 := HX3.out.f 0
        have hf1 := HX3.out.f 1
        have hf2 := HX3.out.f 2
        go_wp2
        rw [HN.out]
        refine bodyPost_ret (v := .tuple #[gv none, .int .i64 (ev none)]) ?_ rfl ⟨rfl, ?_⟩
        · simp [results, Tryz.results121, go_sem, gv, ev, hc0, hc1, hc2]
        · exact ((HB3.out.setCell (Nat.le_refl _) _).setCell (Nat.le_refl _) _).setCell (Nat.le_refl _) _
      | true =>
        refine (encode_yes _ n m s hmay).mono ?_
        rintro e w3 ⟨g, hg, rfl, hrow, hb3⟩
        have he := equal_any (some ⟨b, o, none⟩) (some ⟨g, 0, none⟩) c 8 l (sb n m s) (H2.out.keep hb3) (row_pack hrow rfl (sb_u64 hn1 hm1 hs1))
        rw [HL.out, sb_len] at he
        have HE := Lib.hid he
        have HX3 := Lib.hid (HX2.out.keep hb3)
        have HG3 := Lib.hid (HG2.out.keep hb3)
        have HB3 := Lib.hid (HB2.out.trans (hb3.mono HB2.out.size))
        have HM := Lib.hid hmay
        clear hb3 hmay HX2 HB2 H2 he hrow HG2
        go_wp2_with fail
        refine HE.out.mono ?_
        rintro e w4 ⟨rfl, k, hk⟩
        have HX4 := Lib.hid (show Own w4 w.heap.size 0 0 0 by rw [hk]; exact ⟨⟨HX3.out.box.lt, HX3.out.box.c0, HX3.out.box.c1, HX3.out.box.c2⟩, HX3.out.f⟩)
        have HG4 := Lib.hid (show Geo.Box w4 k1 n m s by rw [hk]; exact ⟨HG3.out.lt, HG3.out.c0, HG3.out.c1, HG3.out.c2⟩)
        have HB4 := Lib.hid (show Below w.heap.size w w4 by rw [hk]; exact Pack.below_drewN HB3.out k)
        clear hk HX3 HG3 HB3 HE
        have hc0 := HX4.out.box.c0
        have hc1 := HX4.out.box.c1
        have hc2 := HX4.out.box.c2
        have hf0 := HX4.out.f 0
        have hf1 := HX4.out.f 1
        have hf2 := HX4.out.f 2
        have hg0 := HG4.out.c0
        have hg1 := HG4.out.c1
        have hg2 := HG4.out.c2
        by_cases hls : l = sb n m s
        · have HN := Lib.hid (show dec l = some (n, m, s) by rw [HD.out, if_pos ⟨HM.out, hls⟩])
          rw [decide_eq_true hls]
          clear hls HD HM
          go_wp2
          rw [HN.out]
          refine bodyPost_ret (v := .tuple #[gv (some (n, m, s)), .int .i64 (ev (some (n, m, s)))]) ?_ rfl ⟨rfl, ?_⟩
          · simp [results, Tryz.results121, go_sem, gv, ev, hc0, hc1, hc2]
          · exact ((HB4.out.setCell (Nat.le_refl _) _).setCell (Nat.le_refl _) _).setCell (Nat.le_refl _) _
        · have HN := Lib.hid (show dec l = none by rw [HD.out, if_neg (fun h => hls h.2)])
          rw [decide_eq_false hls]
          clear hls HD HM
          go_wp2
          rw [HN.out]
          refine bodyPost_ret (v := .tuple #[gv none, .int .i64 (ev none)]) ?_ rfl ⟨rfl, ?_⟩
          · simp [results, Tryz.results121, go_sem, gv, ev, hc0, hc1, hc2]
          · exact ((HB4.out.setCell (Nat.le_refl _) _).setCell (Nat.le_refl _) _).setCell (Nat.le_refl _) _
    · have HN := Lib.hid (show dec l = none by
        unfold dec
        simp only [HD.out]
        exact if_neg (fun h => h48 h.2.1))
      have HS := Lib.hid (split_no (w.alloc (.cells #[.int .i64 0, .int .i64 0, .int .i64 0] 85)) (w.heap.size + 1) (World.size_alloc _ _) x hx h48)
      go_enter Tryz.func121, Tryz.ntmps121
      go_wp2_with fail
      refine HS.out.mono ?_
      rintro e w1 ⟨G, gc, rfl, hb1⟩
      have HX1 := Lib.hid (HX.out.keep hb1)
      have HB1 := Lib.hid (HB.out.trans (hb1.mono HB.out.size))
      clear hb1
      have hc0 := HX1.out.box.c0
      have hc1 := HX1.out.box.c1
      have hc2 := HX1.out.box.c2
      have hf0 := HX1.out.f 0
      have hf1 := HX1.out.f 1
      have hf2 := HX1.out.f 2
      go_wp2
      rw [HN.out]
      refine bodyPost_ret (v := .tuple #[gv none, .int .i64 (ev none)]) ?_ rfl ⟨rfl, ?_⟩
      · simp [results, Tryz.results121, go_sem, gv, ev, hc0, hc1, hc2]
      · exact ((HB1.out.setCell (Nat.le_refl _) _).setCell (Nat.le_refl _) _).setCell (Nat.le_refl _) _
  · have HN := Lib.hid (show dec l = none by
      unfold dec
      exact if_neg (fun h => hl h.1))
    have hl' : ¬ (l.length : Int) = 8 := by omega
    go_enter Tryz.func121, Tryz.ntmps121
    go_wp2
    rw [HN.out]
    refine bodyPost_ret (v := .tuple #[gv none, .int .i64 (ev none)]) ?_ rfl ⟨rfl, ?_⟩
    · simp [results, Tryz.results121, go_sem, gv, ev]
    · exact HB.out
end
end Sup
end Go.Proofs.YtilolepbfmcbgaaGreatDoor
/- The document's superblock. -/
namespace Go.Proofs.YtilolepbfmcbgaaGreatDoor
open Go.RowKit Go.MapKept
namespace Sup

/-- an append whose run is known -/
theorem wpList_append_run {P : Program} {w w' : World} {ops : Array Oper} {rest : List Oper} {o : Oper} {a : Act} {Q : Exit → Act → World → Prop} (hgd : o.guard = none) (s x : Operand) (t : TypeId)
    (ho : o.op = .call { callee := .builtin .append, args := #[s, x], argTypes := #[t, t] }) (v u v' : Value) (hs : a.eval s = v) (hx : a.eval x = u) (hr : (Builtin.append_ #[t, t] o.type #[v, u]).run P w = .ok v' w')
    (h : wpList P ops Q rest (a.put o.dst v') w') : wpList P ops Q (o :: rest) a w := by
  refine wpList_plain hgd fun K hK => ?_
  unfold Oper.wp execOp
  simp only [ho, resolve, invoke, builtin, Sem.run_bind, Sem.run_pure, Result.andThen_ok, List.map_toArray, List.map_cons, List.map_nil, hs, hx, hr]
  exact hK _ _ h

set_option maxRecDepth 100000 in
theorem grow8 (W : World) (g n m s : Nat) (h : Crc.Wds W (some ⟨g, 0, none⟩) (front n m s)) (hn : n < 65536) (hm : m < 65536) (hs : s < 65536) :
    ∃ (G : Option Addr) (gc : Nat) (w' : World), (Builtin.append_ #[22, 22] 22 #[.slice (some ⟨g, 0, none⟩) 7 7, .slice (some ⟨W.heap.size, 0, none⟩) 1 1]).run Tryz.prog (W.alloc (.cells #[.int .u64 (sum n m s : Nat)] 121)) = .ok (.slice G 8 gc) w' ∧ Pack.Wds w' G (sb n m s) ∧ Below W.heap.size W w' := by
  obtain ⟨i1, hi1, hy⟩ := Option.map_eq_some_iff.1 Pack.u64_info
  injection hy with hy0 hy
  injection hy with hy1 hy2
  have hb := (Below.refl W.heap.size W).alloc (Nat.le_refl _) (.cells #[.int .u64 (sum n m s : Nat)] 121)
  have h7 : Crc.Wds (W.alloc (.cells #[.int .u64 (sum n m s : Nat)] 121)) (some ⟨g, 0, none⟩) (front n m s) := h.keep hb
  obtain ⟨v', w', hr, hown, hgr⟩ := run_append_arg_grows (P := Tryz.prog) (W.alloc (.cells #[.int .u64 (sum n m s : Nat)] 121)) 22 22 121 i1 (.int .u64 0) 1 8 Tryz.underlying22 hi1 hy0 hy1 hy2 rfl (by decide)
    ⟨g, 0, none⟩ 7 7 (Pack.u64s (front n m s)) rfl (fun j u hj => by
      unfold Pack.u64s at hj
      rw [List.getElem?_map] at hj
      rcases Nat.lt_or_ge j 7 with h1 | h1
      · obtain ⟨b, o, e, _, hc⟩ := h7.at' j h1
        injection e with e
        injection e with e1 e2
        subst e1 e2
        rw [List.getElem?_eq_getElem h1] at hj
        rw [Go.WideShapes.add_plain, hc, ← hj]
        rfl
      · rw [List.getElem?_eq_none h1] at hj
        cases hj)
    ⟨W.heap.size, 0, none⟩ 1 1 [.int .u64 (sum n m s : Nat)] rfl (cell_one_new _ _ _) (by decide) (by decide) (by decide)
  obtain ⟨G, gc, rfl⟩ := Pack.row_slice hown
  refine ⟨G, gc, w', hr, ?_, hb.grown hgr hb.size (fun k hk => by cases hk)⟩
  exact Pack.own_wds (l := sb n m s) hown (sb_u64 hn hm hs) (by decide)

theorem refEncode_no (w : World) (n m s : Int) (hm : Geo.may n m s = false) :
    Calls Tryz.prog 75 #[.int .i64 n, .int .i64 m, .int .i64 s] w fun r w' => r = .returned (.tuple #[.slice none 0 0, .bool false]) ∧ Below w.heap.size w w' := by
  have hof := Geo.of_any w n m s
  rw [hm, Geo.parts_no hm] at hof
  have HO := Lib.hid hof
  clear hof hm
  go_enter Tryz.func75, Tryz.ntmps75
  go_wp2_with fail
  refine HO.out.mono ?_
  rintro e w1 ⟨rfl, hb⟩
  have HB1 := Lib.hid hb
  clear hb
  go_wp2
  go_ret2
  refine ⟨rfl, ?_⟩
  exact HB1.out.alloc HB1.out.size _

theorem front_new (w : World) (n m s : Nat) (hn : n < 65536) (hm : m < 65536) (hs : s < 65536) : Crc.Wds (w.alloc (.cells #[.int .u64 (magic : Int), .int .u64 ((n : Int) + 65536 * (m : Int) + 4294967296 * (s : Int)), .int .u64 0, .int .u64 0, .int .u64 0, .int .u64 0, .int .u64 0] 121)) (some ⟨w.heap.size, 0, none⟩) (front n m s) :=
  ⟨fun x hx => by
    have h1 := nums_lt hn hm hs
    have h3 := magic_lt
    simp only [front, List.mem_cons, List.not_mem_nil, or_false] at hx
    rcases hx with rfl | rfl | rfl | rfl | rfl | rfl | rfl <;> omega, by rw [front_len]; omega, fun j hj => ⟨w.heap.size, 0, rfl, by simp, by
    rw [World.cell?_alloc_mark, Nat.zero_add]
    have : j < 7 := hj
    have e : (n : Int) + 65536 * (m : Int) + 4294967296 * (s : Int) = ((nums n m s : Nat) : Int) := by unfold nums; omega
    match j, this with
    | 0, _ => rfl
    | 1, _ => rw [e]; rfl
    | 2, _ => rfl
    | 3, _ => rfl
    | 4, _ => rfl
    | 5, _ => rfl
    | 6, _ => rfl⟩⟩

/-- the text's word, from byte k on -/
def mg (k : Nat) : Nat := Crc.le (txt.drop k)
theorem mg8 : mg 8 = 0 := rfl
theorem mg7 : mg 7 = 49 := by decide
theorem mg6 : mg 6 = 12592 := by decide
theorem mg5 : mg 5 = 3223621 := by decide
theorem mg4 : mg 4 = 825247052 := by decide
theorem mg3 : mg 3 = 211263245396 := by decide
theorem mg2 : mg 2 = 54083390821454 := by decide
theorem mg1 : mg 1 = 13845348050292289 := by decide
theorem mg0 : mg 0 = magic := by decide

set_option maxHeartbeats 2000000 in
set_option maxRecDepth 100000 in
theorem refEncode_yes (w : World) (n m s : Nat) (hm : Geo.may n m s = true) :
    Calls Tryz.prog 75 #[.int .i64 (n : Int), .int .i64 (m : Int), .int .i64 (s : Int)] w fun r w' => ∃ (G : Option Addr) (gc : Nat), r = .returned (.tuple #[.slice G 8 gc, .bool true]) ∧ Pack.Wds w' G (sb n m s) ∧ Below w.heap.size w w' := by
  obtain ⟨h1, h2, h3⟩ := may_lt hm
  have hof := Geo.of_any w n m s
  rw [hm, Geo.parts_yes hm] at hof
  have HO := Lib.hid hof
  clear hof hm
  go_enter Tryz.func75, Tryz.ntmps75
  go_wp2_with fail
  refine HO.out.mono ?_
  rintro e w1 ⟨rfl, hb⟩
  have HB := Lib.hid (hb.alloc hb.size (.cells #[.int .i64 16, .int .i64 (16 + (m : Int) * 8), .int .i64 (Geo.bmAt n m), .int .i64 (Geo.bkAt n m), .int .i64 (Geo.fin n m s)] 28))
  clear hb HO
  go_wp2
  generalize w1.alloc (.cells #[.int .i64 16, .int .i64 (16 + (m : Int) * 8), .int .i64 (Geo.bmAt n m), .int .i64 (Geo.bkAt n m), .int .i64 (Geo.fin n m s)] 28) = w2 at *
  go_loop [10, 11] (fun v i => ∃ k : Nat, k ≤ 8 ∧ i = .int .i64 ((k : Int) - 1) ∧ v = .int .u64 ((mg k : Nat) : Int)) (fun _ i => (intOf i + 1).toNat)
  case atStart => exact ⟨8, by omega, rfl, rfl⟩
  case round =>
    obtain ⟨k, hk, rfl, rfl⟩ := hrel
    have : k = 0 ∨ k = 1 ∨ k = 2 ∨ k = 3 ∨ k = 4 ∨ k = 5 ∨ k = 6 ∨ k = 7 ∨ k = 8 := by omega
    clear hk
    rcases this with rfl | rfl | rfl | rfl | rfl | rfl | rfl | rfl | rfl
    · rw [mg0]
      have hf := front_new w2 n m s h1 h2 h3
      have hb3 := HB.out.alloc HB.out.size (.cells #[.int .u64 (magic : Int), .int .u64 ((n : Int) + 65536 * (m : Int) + 4294967296 * (s : Int)), .int .u64 0, .int .u64 0, .int .u64 0, .int .u64 0, .int .u64 0] 121)
      have HF := Lib.hid hf
      have HB3 := Lib.hid hb3
      clear hf hb3
      go_wp2_with fail
      generalize w2.alloc (.cells #[.int .u64 (magic : Int), .int .u64 ((n : Int) + 65536 * (m : Int) + 4294967296 * (s : Int)), .int .u64 0, .int .u64 0, .int .u64 0, .int .u64 0, .int .u64 0] 121) = w3 at *
      generalize w2.heap.size = g at *
      refine (Crc.bytes_any _ 7 _ HF.out (by rw [front_len]; omega)).mono ?_
      rintro e w4 ⟨rfl, hb⟩
      have HF4 := Lib.hid (HF.out.keep hb)
      have HB4 := Lib.hid (HB3.out.trans (hb.mono HB3.out.size))
      clear hb HF HB3 HB
      have hsum := Crc.ref32_any w4 (Crc.str (Crc.wflat (front n m s))) (by rw [Crc.str_size, Crc.wflat_len, front_len]; omega)
      rw [Crc.tx_str (Crc.wflat_byt _), show Crc.S32 (Crc.wflat (front n m s)) = sum n m s from rfl] at hsum
      have HS := Lib.hid hsum
      clear hsum
      have hlt := sum_lt n m s
      go_wp2_with fail
      refine HS.out.mono ?_
      rintro e w' ⟨rfl, rfl⟩
      obtain ⟨G, gc, w5, hap, hw, hb5⟩ := grow8 w4 g n m s HF4.out h1 h2 h3
      have HAP := Lib.hid hap
      have HW := Lib.hid hw
      have HB5 := Lib.hid (HB4.out.trans (hb5.mono HB4.out.size))
      clear hap hw hb5 HF4 HB4
      go_wp2_with (at_builtin; refine wpList_append_run rfl (.tmp 44) (.tmp 49) 22 rfl _ _ _ rfl rfl HAP.out ?_)
      go_ret2
      exact ⟨G, gc, rfl, HW.out, HB5.out⟩
    · rw [mg1]
      go_wp2
      go_round
      case rel => exact ⟨0, by omega, rfl, by rw [mg0]; rfl⟩
      case measure => simp [intOf]
    · rw [mg2]
      go_wp2
      go_round
      case rel => exact ⟨1, by omega, rfl, by rw [mg1]; rfl⟩
      case measure => simp [intOf]
    · rw [mg3]
      go_wp2
      go_round
      case rel => exact ⟨2, by omega, rfl, by rw [mg2]; rfl⟩
      case measure => simp [intOf]
    · rw [mg4]
      go_wp2
      go_round
      case rel => exact ⟨3, by omega, rfl, by rw [mg3]; rfl⟩
      case measure => simp [intOf]
    · rw [mg5]
      go_wp2
      go_round
      case rel => exact ⟨4, by omega, rfl, by rw [mg4]; rfl⟩
      case measure => simp [intOf]
    · rw [mg6]
      go_wp2
      go_round
      case rel => exact ⟨5, by omega, rfl, by rw [mg5]; rfl⟩
      case measure => simp [intOf]
    · rw [mg7]
      go_wp2
      go_round
      case rel => exact ⟨6, by omega, rfl, by rw [mg6]; rfl⟩
      case measure => simp [intOf]
    · rw [mg8]
      go_wp2
      go_round
      case rel => exact ⟨7, by omega, rfl, by rw [mg7]; rfl⟩
      case measure => simp [intOf]
end Sup
end Go.Proofs.YtilolepbfmcbgaaGreatDoor
/- The document's decoding. -/
namespace Go.Proofs.YtilolepbfmcbgaaGreatDoor
open Go.RowKit Go.MapKept
namespace Sup

/-- the numbers, and whether there are any -/
def rv : Option (Nat × Nat × Nat) → Value
  | some (n, m, s) => .tuple #[.int .i64 (n : Int), .int .i64 (m : Int), .int .i64 (s : Int), .bool true]
  | none => .tuple #[.int .i64 0, .int .i64 0, .int .i64 0, .bool false]

section
variable {w : World}
end
end Sup
end Go.Proofs.YtilolepbfmcbgaaGreatDoor
