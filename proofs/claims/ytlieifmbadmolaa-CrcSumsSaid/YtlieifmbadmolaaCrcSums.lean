/- CrcSums, walked: both sums are the document's, as of all bytes in one. -/
import Derived.Test.YtlieifmbadmolaaCrcText
namespace Go.Proofs.Ytlieifmbadmolaa
open Go.RowKit Go.MapKept
namespace Crc

section
variable {w : World}
set_option maxHeartbeats 1600000 in
set_option maxRecDepth 100000 in
theorem few_any (A : Option Addr) (c : Nat) (ps : List Prt) (h : Pts w A ps) :
    Calls Try.prog 8 #[.slice A ps.length c] w fun r w' => (∃ b : Bool, r = .returned (.bool b) ∧ (b = true → ps.length ≤ 20 ∧ ∀ i (h : i < ps.length), ps[i].l.length ≤ 200)) ∧ w = w' := by
  have hn := h.len
  have H := Lib.hid h
  clear h
  go_enter Try.func8, Try.ntmps8
  go_wp2
  go_loopw [7] (fun i wr => ∃ m : Nat, m ≤ ps.length ∧ i = .int .i64 (m : Int) ∧ (∀ j (h : j < ps.length), j < m → ps[j].l.length ≤ 200) ∧ w = wr) (fun i _ => ps.length - (intOf i).toNat)
  case atStart => exact ⟨0, Nat.zero_le _, rfl, fun j _ h => absurd h (by omega), rfl⟩
  case round =>
    obtain ⟨m, hm, rfl, hs, rfl⟩ := hrel
    have HS := Lib.hid hs
    clear hs
    by_cases hlt : m < ps.length
    · obtain ⟨b, o, rfl, hb, hcell⟩ := H.out.at' m hlt
      have hbl := (H.out.bts m hlt).len
      by_cases h2 : ps[m].l.length ≤ 200
      · have HT := Lib.hid h2
        generalize ps[m] = q at hcell hbl h2
        go_wp2
        refine ⟨⟨m + 1, by omega, by go_num, fun j hj hjm => ?_, trivial⟩, by simp [intOf]; omega⟩
        rcases Nat.lt_or_ge j m with h | h
        · exact HS.out j hj h
        · obtain rfl : j = m := by omega
          exact HT.out
      · generalize ps[m] = q at hcell hbl h2
        go_wp2
        go_ret
        exact ⟨⟨false, rfl, fun h => by cases h⟩, rfl⟩
    · obtain rfl : m = ps.length := by omega
      go_wp2
      go_ret
      refine ⟨⟨_, rfl, fun h => ⟨?_, fun i hi => HS.out i hi hi⟩⟩, rfl⟩
      have h' := of_decide_eq_true h
      omega

theorem str_append (l m : List Nat) : str (l ++ m) = str l ++ str m := by
  apply ByteArray.ext
  rw [ByteArray.data_append]
  simp [str]

theorem flat_len {ps : List Prt} (h : ∀ i (h : i < ps.length), ps[i].l.length ≤ 200) : (flat ps).length ≤ 200 * ps.length := by
  induction ps with
  | nil => simp [flat]
  | cons q ps ih =>
    have h0 := h 0 (by simp)
    have h1 := ih (fun i hi => by
      have := h (i + 1) (by simpa using hi)
      simpa using this)
    simp only [flat, List.flatMap_cons, List.length_append, List.length_cons, List.getElem_cons_zero] at *
    omega

theorem bts_text (W : World) (s : ByteArray) (cap : Nat) (fr : Nat × Nat) (hs : s.size < 1000000000000) : Bts (W.alloc (.cells (bytesRow s cap) 5 fr)) (some ⟨W.heap.size, 0, none⟩) (tx s) :=
  ⟨tx_byt s, by rw [tx_len]; omega, fun j hj => ⟨W.heap.size, 0, rfl, by simp, by
    rw [World.cell?_alloc_mark, Nat.zero_add]
    rw [tx_len] at hj
    rw [bytesRow_at s cap j hj]
    congr 2
    simp [tx]⟩⟩

/-- a text's bytes, anew -/
theorem conv_bytes (W : World) (l : List Nat) (hb : Byt l) (hl : l.length ≤ 4000) : ∃ (W2 : World) (gc : Nat), (convert 9 25 (.string (str l))).run Try.prog W = .ok (.slice (some ⟨W.heap.size, 0, none⟩) l.length gc) W2 ∧ Bts W2 (some ⟨W.heap.size, 0, none⟩) l ∧ Below W.heap.size W W2 := by
  have h := run_bytes_of_string (P := Try.prog) W 9 25 5 (str l) Try.underlying9 Try.underlying25 Try.underlying5
  have hz := str_size l
  have hbt := bts_text W.drew (str l) (grownCap W (str l).size 0 5) ((bytesRow (str l) (grownCap W (str l).size 0 5)).size, (bytesRow (str l) (grownCap W (str l).size 0 5)).size + 1) (by omega)
  rw [tx_str hb] at hbt
  refine ⟨_, grownCap W (str l).size 0 5, ?_, hbt, (Below.refl _ _).drew.alloc (Nat.le_refl _) _⟩
  rw [h, hz]

set_option maxHeartbeats 1600000 in
set_option maxRecDepth 100000 in
theorem crcSums_any (A : Option Addr) (c : Nat) (ps : List Prt) (h : Pts w A ps) :
    Calls Try.prog 3 #[.slice A ps.length c] w fun r w' => r = .returned (.bool true) ∧ Below w.heap.size w w' := by
  have hlen := h.len
  have H := Lib.hid h
  clear h
  have HL := Lib.hid (fun W => lives_any W)
  go_enter Try.func3, Try.ntmps3
  go_wp2_with fail
  refine (HL.out _).mono ?_
  rintro e w1 ⟨rfl, hb⟩
  have H1 := Lib.hid (H.out.keep hb)
  have HB := Lib.hid hb
  clear hb
  go_wp2_with fail
  refine (few_any A c ps H1.out).mono ?_
  rintro e w2 ⟨⟨b, rfl, hfew⟩, rfl⟩
  cases b
  · clear hfew
    go_wp2_with fail
    refine (HL.out _).mono ?_
    rintro e w2 ⟨rfl, hb2⟩
    have HB2 := Lib.hid hb2
    clear hb2
    go_wp2
    go_ret
    exact ⟨rfl, HB.out.trans (HB2.out.mono HB.out.size)⟩
  · have h20 := (hfew rfl).1
    have hfl : (flat ps).length ≤ 4000 := by have := flat_len (hfew rfl).2; omega
    have HF := Lib.hid (hfew rfl).2
    clear hfew
    go_wp2_with fail
    go_loopw [3, 16] (fun s i wr => ∃ m : Nat, m ≤ ps.length ∧ i = .int .i64 (m : Int) ∧ s = .string (str (flat (ps.take m))) ∧ w1 = wr) (fun _ i _ => ps.length - (intOf i).toNat)
    case atStart => exact ⟨0, Nat.zero_le _, rfl, rfl, rfl⟩
    case round =>
      obtain ⟨m, hm, rfl, rfl, rfl⟩ := hrel
      by_cases hlt : m < ps.length
      · obtain ⟨b, o, rfl, hb, hcell⟩ := H1.out.at' m hlt
        have hbt := H1.out.bts m hlt
        have hcv := conv_str ps[m].c hbt
        have HR := Lib.hid (show str (flat (ps.take (m + 1))) = str (flat (ps.take m)) ++ str ps[m].l by rw [flat_take hlt, str_append])
        have hlim : (str (flat (ps.take m))).size + (str ps[m].l).size ≤ 4000 := by
          rw [str_size, str_size]
          have h1 := flat_len (ps := ps.take (m + 1)) (fun i hi => by
            rw [List.getElem_take]
            exact HF.out i (by rw [List.length_take] at hi; omega))
          rw [flat_take hlt, List.length_append, List.length_take] at h1
          omega
        clear hbt
        generalize ps[m] = q at *
        go_wp2
        exact ⟨⟨m + 1, by omega, by go_num, by rw [HR.out], trivial⟩, by simp [intOf]; omega⟩
      · obtain rfl : m = ps.length := by omega
        rw [List.take_length]
        have hsz : (str (flat ps)).size < 1000000000000 := by rw [str_size]; omega
        have HS := Lib.hid hsz
        have HT := Lib.hid (tx_str H1.out.flat_byt)
        clear hsz
        go_wp2_with fail
        refine (sum32_any A c ps H1.out).mono ?_
        rintro e w' ⟨rfl, rfl⟩
        go_wp2_with fail
        have hc := ref32_any w1 (str (flat ps)) HS.out
        rw [HT.out] at hc
        refine hc.mono ?_
        clear hc
        rintro e w' ⟨rfl, rfl⟩
        go_wp2_with fail
        refine (sum16_any A c ps H1.out).mono ?_
        rintro e w' ⟨rfl, rfl⟩
        go_wp2_with fail
        have hc := ref16_any w1 (str (flat ps)) HS.out
        rw [HT.out] at hc
        refine hc.mono ?_
        clear hc
        rintro e w' ⟨rfl, rfl⟩
        obtain ⟨w3, g3, hcv, hbt3, hb3⟩ := conv_bytes w1 (flat ps) H1.out.flat_byt hfl
        have HC3 := Lib.hid (sum32_one g3 1 hbt3)
        have HP3 := Lib.hid ((H1.out.keep hb3).alloc (.cells #[.slice (some ⟨w1.heap.size, 0, none⟩) (flat ps).length g3] 25))
        have HB3 := Lib.hid ((hb3.alloc hb3.size (.cells #[.slice (some ⟨w1.heap.size, 0, none⟩) (flat ps).length g3] 25)))
        clear hbt3 hb3
        go_wp2_with fail
        refine HC3.out.mono ?_
        clear hcv HC3
        generalize w3.alloc (.cells #[.slice (some ⟨w1.heap.size, 0, none⟩) (flat ps).length g3] 25) = w4 at *
        rintro e w' ⟨rfl, rfl⟩
        go_wp2_with fail
        refine (sum32_any A c ps HP3.out).mono ?_
        rintro e w' ⟨rfl, rfl⟩
        obtain ⟨w5, g5, hcv, hbt5, hb5⟩ := conv_bytes w4 (flat ps) H1.out.flat_byt hfl
        have HC5 := Lib.hid (sum16_one g5 1 hbt5)
        have HP5 := Lib.hid ((HP3.out.keep hb5).alloc (.cells #[.slice (some ⟨w4.heap.size, 0, none⟩) (flat ps).length g5] 25))
        have HB5 := Lib.hid ((hb5.alloc hb5.size (.cells #[.slice (some ⟨w4.heap.size, 0, none⟩) (flat ps).length g5] 25)))
        clear hbt5 hb5
        go_wp2_with fail
        refine HC5.out.mono ?_
        clear hcv HC5
        generalize w5.alloc (.cells #[.slice (some ⟨w4.heap.size, 0, none⟩) (flat ps).length g5] 25) = w6 at *
        rintro e w' ⟨rfl, rfl⟩
        go_wp2_with fail
        refine (sum16_any A c ps HP5.out).mono ?_
        rintro e w' ⟨rfl, rfl⟩
        go_wp2
        go_ret
        have h4 := HB.out.trans (HB3.out.mono HB.out.size)
        exact ⟨rfl, h4.trans (HB5.out.mono h4.size)⟩
end
end Crc
end Go.Proofs.Ytlieifmbadmolaa
