/- EntryAll, walked. -/
import Derived.Test.YtdgbpnchkgdmmaaEntDir
namespace Go.Proofs.Ytdgbpnchkgdmmaa
open Go.RowKit Go.MapKept
namespace Ent

section
variable {w : World}
set_option maxHeartbeats 1000000 in
theorem allLaw_long (A : Option Addr) (c n : Nat) (hn : n ≤ 9223372036854775807) (h2000 : ¬ n ≤ 2000) :
    Calls Try.prog 5 #[.slice A n c] w fun r w' => r = .returned (.bool true) ∧ Below w.heap.size w w' := by
  have HL := Lib.hid lives_any
  go_enter Try.func5, Try.ntmps5
  go_wp2_with fail
  refine (HL.out _).mono ?_
  rintro e w1 ⟨rfl, hb⟩
  have HB := Lib.hid hb
  clear hb
  go_wp2_with fail
  refine (HL.out _).mono ?_
  rintro e w2 ⟨rfl, hb⟩
  have HB2 := Lib.hid (HB.out.trans (hb.mono HB.out.size))
  clear hb
  go_wp2
  go_ret
  exact ⟨rfl, HB2.out⟩

theorem all_is_none (w : World) (A : Option Addr) (n c : Nat) (l : List Nat) (h : Crc.Bts w A l) (hn : n = l.length) (hc : n ≤ c) (h1000 : n ≤ 64000) (ha : alls l = none) : Calls Try.prog 18 #[.slice A n c] w fun r w' => r = .returned (.tuple #[.slice none 0 0, .int .i64 2]) ∧ Below w.heap.size w w' :=
  (all_any w A n c l h hn hc h1000).mono fun r w' hq => by
    unfold AllTo at hq
    rw [ha] at hq
    exact hq
theorem all_is_some (w : World) (A : Option Addr) (n c : Nat) (l : List Nat) (h : Crc.Bts w A l) (hn : n = l.length) (hc : n ≤ c) (h1000 : n ≤ 64000) {ds : List (List Nat × Nat)} (ha : alls l = some ds) : Calls Try.prog 18 #[.slice A n c] w fun r w' => ∃ (G : Option Addr) (gc : Nat), r = .returned (.tuple #[.slice G ds.length gc, .int .i64 0]) ∧ Es w' G (ens ds) ∧ Below w.heap.size w w' :=
  (all_any w A n c l h hn hc h1000).mono fun r w' hq => by
    unfold AllTo at hq
    rw [ha] at hq
    exact hq
theorem refAll_is_none (w : World) (s : ByteArray) (hs : s.size ≤ 2000) (ha : alls (Crc.tx s) = none) : Calls Try.prog 19 #[.string s] w fun r w' => r = .returned (.tuple #[.slice none 0 0, .bool false]) ∧ Below w.heap.size w w' :=
  (refAll_any w s hs).mono fun r w' hq => by
    unfold RefTo at hq
    rw [ha] at hq
    exact hq
theorem refAll_is_some (w : World) (s : ByteArray) (hs : s.size ≤ 2000) {ds : List (List Nat × Nat)} (ha : alls (Crc.tx s) = some ds) : Calls Try.prog 19 #[.string s] w fun r w' => ∃ (G : Option Addr) (gc : Nat), r = .returned (.tuple #[.slice G ds.length gc, .bool true]) ∧ Es w' G (ens ds) ∧ Below w.heap.size w w' :=
  (refAll_any w s hs).mono fun r w' hq => by
    unfold RefTo at hq
    rw [ha] at hq
    exact hq

set_option maxHeartbeats 2000000 in
set_option maxRecDepth 100000 in
theorem allLaw_none (A : Option Addr) (c : Nat) (l : List Nat) (h : Crc.Bts w A l) (hc : l.length ≤ c) (h2000 : l.length ≤ 2000) (ha : alls l = none) :
    Calls Try.prog 5 #[.slice A l.length c] w fun r w' => r = .returned (.bool true) ∧ Below w.heap.size w w' := by
  have HL := Lib.hid lives_any
  have H := Lib.hid h
  have HA := Lib.hid ha
  have HTX := Lib.hid (Crc.tx_str h.byt)
  have HSZ := Lib.hid (show (Crc.str l).size ≤ 2000 by rw [Crc.str_size]; exact h2000)
  clear h ha
  go_enter Try.func5, Try.ntmps5
  go_wp2_with fail
  refine (HL.out _).mono ?_
  rintro e w1 ⟨rfl, hb⟩
  have H1 := Lib.hid (H.out.keep hb)
  have HB1 := Lib.hid hb
  clear hb H
  go_wp2_with fail
  refine (all_is_none w1 A l.length c l H1.out rfl hc (by omega) HA.out).mono ?_
  rintro e w2 ⟨rfl, hb⟩
  have H2 := Lib.hid (H1.out.keep hb)
  have HB2 := Lib.hid (HB1.out.trans (hb.mono HB1.out.size))
  clear hb H1 HB1
  have hcv := Crc.conv_str c H2.out
  have HRA := Lib.hid (fun w => refAll_is_none w (Crc.str l) HSZ.out (by rw [HTX.out]; exact HA.out))
  clear HTX HSZ
  generalize Crc.str l = E at *
  go_wp2_with fail
  refine (HRA.out _).mono ?_
  rintro e w3 ⟨rfl, hb⟩
  have HB3 := Lib.hid (HB2.out.trans (hb.mono HB2.out.size))
  clear hb H2 HB2 hcv
  go_wp2
  go_loopw [50] (fun i wr => i = .int .i64 0 ∧ wr = w3) (fun _ _ => 0)
  case atStart => exact ⟨rfl, rfl⟩
  case round =>
    obtain ⟨rfl, rfl⟩ := hrel
    go_wp2
    go_ret
    exact ⟨rfl, HB3.out⟩

set_option maxHeartbeats 2000000 in
set_option maxRecDepth 100000 in
theorem allLaw_some (A : Option Addr) (c : Nat) (l : List Nat) (h : Crc.Bts w A l) (hc : l.length ≤ c) (h2000 : l.length ≤ 2000) (ds : List (List Nat × Nat)) (ha : alls l = some ds) :
    Calls Try.prog 5 #[.slice A l.length c] w fun r w' => r = .returned (.bool true) ∧ Below w.heap.size w w' := by
  have HL := Lib.hid lives_any
  have H := Lib.hid h
  have HA := Lib.hid ha
  have HTX := Lib.hid (Crc.tx_str h.byt)
  have HSZ := Lib.hid (show (Crc.str l).size ≤ 2000 by rw [Crc.str_size]; exact h2000)
  have hal := alls_is ha
  have hdl : ds.length ≤ 100 := by have := hal.1; omega
  have HEB := Lib.hid (hal.bytes h.byt)
  have HMY := Lib.hid (hal.2.1.may h.byt)
  have HND := Lib.hid hal.2.2
  have HLL := Lib.hid (show 64 * (ens ds).length = l.length by rw [ens_len, hal.1])
  have HEL := Lib.hid (ens_len ds)
  clear h ha hal
  go_enter Try.func5, Try.ntmps5
  go_wp2_with fail
  refine (HL.out _).mono ?_
  rintro e w1 ⟨rfl, hb⟩
  have H1 := Lib.hid (H.out.keep hb)
  have HB1 := Lib.hid hb
  clear hb H
  go_wp2_with fail
  refine (all_is_some w1 A l.length c l H1.out rfl hc (by omega) HA.out).mono ?_
  rintro e w2 ⟨G, gc, rfl, hes, hb⟩
  have HES2 := Lib.hid hes
  have H2 := Lib.hid (H1.out.keep hb)
  have HB2 := Lib.hid (HB1.out.trans (hb.mono HB1.out.size))
  clear hb H1 HB1 hes
  have hcv := Crc.conv_str c H2.out
  have HRA := Lib.hid (fun w => refAll_is_some w (Crc.str l) HSZ.out (by rw [HTX.out]; exact HA.out))
  clear HTX HSZ
  have HES := Lib.hid (show ∃ E, Crc.str l = E from ⟨_, rfl⟩)
  go_wp2_with fail
  refine (HRA.out _).mono ?_
  rintro e w3 ⟨K, kc, rfl, hks, hb⟩
  have HG3 := Lib.hid (HES2.out.keep hb)
  have HK3 := Lib.hid hks
  have H3 := Lib.hid (H2.out.keep hb)
  have HB3 := Lib.hid (HB2.out.trans (hb.mono HB2.out.size))
  clear hb H2 HB2 hcv HES2 hks
  go_wp2
  go_loopw [50] (fun i wr => ∃ m : Nat, m ≤ ds.length ∧ i = .int .i64 (m : Int) ∧ Below w3.heap.size w3 wr) (fun i _ => ds.length - (intOf i).toNat)
  case atStart => exact ⟨0, Nat.zero_le _, rfl, Below.refl _ _⟩
  case round =>
    obtain ⟨m, hm, rfl, hb⟩ := hrel
    by_cases hlt : m < ds.length
    · have hml : m < (ens ds).length := by rw [ens_len]; exact hlt
      obtain ⟨b, o, rfl, hbb, hc0, hc1⟩ := HG3.out.at' m hml
      obtain ⟨b', o', rfl, hbb', hd0, hd1⟩ := HK3.out.at' m hml
      have hc0 := (hb.cell (p := ⟨b, o + m * 2, none⟩) hbb).trans hc0
      have hc1 := (hb.cell (p := ⟨b, o + m * 2 + 1, none⟩) hbb).trans hc1
      have hd0 := (hb.cell (p := ⟨b', o' + m * 2, none⟩) hbb').trans hd0
      have hd1 := (hb.cell (p := ⟨b', o' + m * 2 + 1, none⟩) hbb').trans hd1
      have HBD := Lib.hid hb.drew
      clear hb
      generalize (ens ds)[m] = e at *
      obtain ⟨s, i⟩ := e
      simp only at hc0 hc1 hd0 hd1
      go_wp2
      go_region
      all_goals go_wp2
      all_goals exact ⟨⟨m + 1, by omega, by go_num, HBD.out⟩, by simp [intOf]; omega⟩
    · obtain rfl : m = ds.length := by omega
      have HG4 := Lib.hid (HG3.out.keep hb)
      have H4 := Lib.hid (H3.out.keep hb)
      have HB4 := Lib.hid (HB3.out.trans (hb.mono HB3.out.size))
      have hj := join_some wr G gc (ens ds) HG4.out (by rw [ens_len]; omega) HND.out HMY.out
      rw [HEL.out] at hj
      have HJ := Lib.hid hj
      clear hb hj hlt
      go_wp2_with fail
      refine HJ.out.mono ?_
      rintro e w5 ⟨O, oc, rfl, hoc, hob, hb⟩
      have hcv1 := Crc.conv_str c (H4.out.keep hb)
      have hcv2 := Crc.conv_str oc hob
      rw [HEB.out, ← HLL.out] at hcv2
      have HB5 := Lib.hid (HB4.out.trans (hb.mono HB4.out.size))
      clear hb hob hoc HJ
      generalize Crc.str l = E at *
      go_wp2
      go_ret
      exact ⟨rfl, HB5.out⟩

theorem allLaw_any (A : Option Addr) (c : Nat) (l : List Nat) (h : Crc.Bts w A l) (hc : l.length ≤ c) :
    Calls Try.prog 5 #[.slice A l.length c] w fun r w' => r = .returned (.bool true) ∧ Below w.heap.size w w' := by
  by_cases h2000 : l.length ≤ 2000
  · cases ha : alls l with
    | none => exact allLaw_none A c l h hc h2000 ha
    | some ds => exact allLaw_some A c l h hc h2000 ds ha
  · exact allLaw_long A c l.length h.len h2000
end
end Ent
end Go.Proofs.Ytdgbpnchkgdmmaa
