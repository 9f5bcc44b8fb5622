/- Bytes as a text; the document's bytes of words; CrcWords. -/
import Derived.Test.YtamkelcgalfkcaaCrcWords
import Derived.OwnWalk
namespace Go.Proofs.Ytamkelcgalfkcaa
open Go.RowKit Go.MapKept
namespace Crc

theorem ofNat_toNat {b : Nat} (h : b < 256) : (UInt8.ofNat b).toNat = b := by
  rw [UInt8.toNat_ofNat']
  omega

/-- the text of bytes -/
def str (l : List Nat) : ByteArray := ⟨(l.map UInt8.ofNat).toArray⟩
theorem str_size (l : List Nat) : (str l).size = l.length := by
  show ((l.map UInt8.ofNat).toArray).size = _
  rw [List.size_toArray, List.length_map]
theorem tx_str {l : List Nat} (h : Byt l) : tx (str l) = l := by
  unfold tx str
  rw [List.map_map]
  refine (List.map_congr_left (fun b hb => ?_)).trans (List.map_id l)
  exact ofNat_toNat (h b hb)

theorem conv_str {W : World} {A : Option Addr} {l : List Nat} (c : Nat) (h : Bts W A l) : (convert 58 9 (.slice A l.length c)).run Try.prog W = .ok (.string (str l)) W := by
  cases A with
  | none =>
    have hl : l = [] := by
      cases l with
      | nil => rfl
      | cons b l =>
        obtain ⟨_, _, e, _⟩ := h.at' 0 (by simp)
        cases e
    subst hl
    exact run_convert_bytes_nil W _ _ Try.underlying58 Try.underlying5 0 c _ Try.underlying9
  | some a =>
    have hr := run_convert_bytes_back (P := Try.prog) W 58 9 5 a c (l.map UInt8.ofNat) Try.underlying58 Try.underlying5 Try.underlying9 (fun j hj => by
      rw [List.length_map] at hj
      obtain ⟨b, o, e, _, hc⟩ := h.at' j hj
      injection e with e
      subst e
      rw [Go.WideShapes.add_plain, hc, List.getElem_map, ofNat_toNat (h.byt _ (List.getElem_mem hj))])
    rw [List.length_map] at hr
    exact hr

/-- bytes as cells -/
def u8s (l : List Nat) : List Value := l.map fun b : Nat => Value.int .u8 (b : Int)
theorem u8s_one (l : List Nat) : ∀ u ∈ u8s l, u.oneCell' = true := by
  intro u hu
  obtain ⟨x, _, rfl⟩ := List.mem_map.1 hu
  rfl

theorem own_bts {W : World} {B n c : Nat} {G : Option Addr} {bs : List Nat} (h : W.ownsRow B 5 1 (.slice G n c) n (u8s bs)) (hb : Byt bs) (hm : n ≤ 9223372036854775807) : Bts W G bs := by
  have hl : bs.length = n := by
    have := h.1
    simpa [u8s] using this
  refine ⟨hb, by omega, fun j hj => ?_⟩
  rcases h.2 with ⟨e, h0⟩ | ⟨g, cap, cur, e, _, hh, _, _, _, ht⟩
  · omega
  · injection e with e
    subst e
    refine ⟨g, 0, rfl, (Array.getElem?_eq_some_iff.1 hh).1, ?_⟩
    have := congrArg (·[j]?) ht
    simp only [Nat.mul_one, u8s] at this
    rw [List.getElem?_take, if_pos (by omega), List.getElem?_map, List.getElem?_eq_getElem hj] at this
    unfold World.cell?
    rw [hh, Nat.zero_add]
    simp only
    rw [← Array.getElem?_toList]
    simpa using this

theorem row_slice {B n : Nat} {W : World} {e : TypeId} {v : Value} {xs : List Value} (h : W.ownsRow B e 1 v n xs) : ∃ G c, v = .slice G n c := by
  rcases h.2 with ⟨e, h0⟩ | ⟨g, cap, cur, e, _⟩
  · exact ⟨none, 0, by rw [e, h0]⟩
  · exact ⟨_, _, e⟩
theorem row_base_lt {w : World} {B : Nat} {e : TypeId} {n : Nat} {v : Value} {xs : List Value} (h : w.ownsRow B e 1 v n xs) {g : Nat} (hg : v.ownBlock = some g) : B ≤ g := by
  rcases h.2 with ⟨e, _⟩ | ⟨g', cap, cur, e, hb, hh, _⟩
  · rw [e] at hg; simp [Value.ownBlock] at hg
  · rw [e] at hg
    simp only [Value.ownBlock, Option.some.injEq] at hg
    omega

theorem u8_info : (Try.prog.info? 5).map (fun i => (i.zero, i.size, i.bytes)) = some (some (.int .u8 0), 1, 1) := by kernel_rfl

/-- bytes of the call's own -/
def Got (w wr : World) (G : Option Addr) (n gc : Nat) (bs : List Nat) : Prop := wr.ownsRow w.heap.size 5 1 (.slice G n gc) n (u8s bs) ∧ Below w.heap.size w wr

theorem wflat_len (l : List Nat) : (wflat l).length = 8 * l.length := by
  unfold wflat
  induction l with
  | nil => rfl
  | cons x l ih => rw [List.flatMap_cons, List.length_append, ih, wb_len, List.length_cons]; omega

theorem div_pow (x j : Nat) : x / 256 ^ (j + 1) = x / 256 ^ j / 256 := by rw [Nat.pow_succ, Nat.div_div_eq_div_mul]

section
variable {w : World}
set_option maxHeartbeats 1600000 in
set_option maxRecDepth 100000 in
theorem bytes_any (A : Option Addr) (c : Nat) (l : List Nat) (h : Wds w A l) (h60 : l.length ≤ 60) :
    Calls Try.prog 26 #[.slice A l.length c] w fun e w' => e = .returned (.string (str (wflat l))) ∧ Below w.heap.size w w' := by
  have H := Lib.hid h
  clear h
  go_enter Try.func26, Try.ntmps26
  go_wp2
  go_loopw [3, 8] (fun v i wr => ∃ (m : Nat) (G : Option Addr) (gc : Nat), m ≤ l.length ∧ i = .int .i64 (m : Int) ∧ v = .slice G (8 * m) gc ∧ Got w wr G (8 * m) gc (wflat (l.take m))) (fun _ i _ => l.length - (intOf i).toNat)
  case atStart => exact ⟨0, none, 0, Nat.zero_le _, rfl, rfl, ⟨by rw [List.take_zero]; rfl, .inl ⟨rfl, rfl⟩⟩, Below.refl _ _⟩
  case round =>
    obtain ⟨m, G, gc, hm, rfl, rfl, hgot⟩ := hrel
    by_cases hlt : m < l.length
    · obtain ⟨b, o, rfl, hb, hcell0⟩ := H.out.at' m hlt
      have hcell := (hgot.2.cell (p := ⟨b, o + m, none⟩) hb).trans hcell0
      have hx := H.out.u64 _ (List.getElem_mem hlt)
      have HR := Lib.hid (wflat_take hlt)
      have HG := Lib.hid hgot
      generalize l[m] = x at *
      clear hgot hcell0
      go_wp2
      go_loopw [3, 5, 12] (fun v y i w2 => ∃ (j : Nat) (G : Option Addr) (gc : Nat), j ≤ 8 ∧ i = .int .i64 (j : Int) ∧ y = .int .u64 ((x / 256 ^ j : Nat) : Int) ∧ v = .slice G (8 * m + j) gc ∧ Got w w2 G (8 * m + j) gc (wflat (l.take m) ++ (wb x).take j)) (fun _ _ i _ => 8 - (intOf i).toNat)
      case atStart => exact ⟨0, G, gc, Nat.zero_le _, rfl, by simp, rfl, by simpa using HG.out⟩
      case round =>
        obtain ⟨j, G2, gc2, hj, rfl, rfl, rfl, hgot2⟩ := hrel
        by_cases hjl : j < 8
        · have hjw : j < (wb x).length := by rw [wb_len]; exact hjl
          have e1 : (wb x).take (j + 1) = (wb x).take j ++ [x / 256 ^ j % 256] := by rw [List.take_succ_eq_append_getElem hjw, wb_get]
          have e2 := div_pow x j
          have hyl : x / 256 ^ j < 18446744073709551616 := Nat.lt_of_le_of_lt (Nat.div_le_self _ _) hx
          have HE1 := Lib.hid e1
          have HE2 := Lib.hid e2
          generalize x / 256 ^ j = y at *
          obtain ⟨i0, hi0, hz0, hz1, hz2⟩ := info_parts u8_info
          have HOWN := Lib.hid (hgot2.1.alloc (.cells #[.int .u8 ((y : Int) % 256)] 5))
          have HB2 := Lib.hid hgot2.2
          have HRW := Lib.hid hgot2.1
          clear hgot2 e1 e2 hx
          go_wp2_with (at_builtin; refine wpList_append_own_at _ rfl (.tmp 14) (.tmp 18) 58 rfl w.heap.size 5 i0 (.int .u8 0) 1 1 Try.underlying58 hi0 hz0 hz1 hz2 rfl (by decide) (.slice G2 (8 * m + j) gc2) (8 * m + j) (u8s (wflat (l.take m) ++ (wb x).take j)) rfl HOWN.out ⟨wr.heap.size, 0, none⟩ 1 1 [.int .u8 ((y : Int) % 256)] rfl rfl (cell_one_new _ _ _) (by simp [Value.oneCell']) (by unfold maxLen; omega) (by omega) (by have := HB2.out.size; simp; omega) ?_
                       intro v' w3 hown3 hgr3 _ _
                       obtain ⟨G', gc', rfl⟩ := row_slice hown3
                       have HO3 := Lib.hid hown3
                       have HG3 := Lib.hid hgr3
                       clear hown3 hgr3)
          refine ⟨⟨j + 1, G', gc', by omega, by go_num, ?_, rfl, ?_, ?_⟩, by simp [intOf]; omega⟩
          · rw [HE2.out]
            rfl
          · have e : u8s (wflat (l.take m) ++ (wb x).take (j + 1)) = u8s (wflat (l.take m) ++ (wb x).take j) ++ [.int .u8 ((y : Int) % 256)] := by
              rw [HE1.out, ← List.append_assoc]
              simp only [u8s, List.map_append]
              rfl
            rw [e]
            exact HO3.out
          · exact (HB2.out.alloc HB2.out.size _).grown HG3.out (by have := HB2.out.size; simp; omega) (fun k hk => row_base_lt HRW.out hk)
        · obtain rfl : j = 8 := by omega
          rw [List.take_of_length_le (l := wb x) (by rw [wb_len]; exact Nat.le_refl _), ← HR.out] at hgot2
          have HG2 := Lib.hid hgot2
          clear hgot2
          go_wp2
          exact ⟨⟨m + 1, G2, gc2, by omega, by go_num, rfl, HG2.out⟩, by simp [intOf]; omega⟩
    · obtain rfl : m = l.length := by omega
      rw [List.take_length] at hgot
      have hcv := conv_str gc (own_bts hgot.1 (wflat_byt l) (by omega))
      rw [wflat_len] at hcv
      have HB := Lib.hid hgot.2
      clear hgot
      go_wp2
      go_ret
      exact ⟨rfl, HB.out⟩

end
end Crc
end Go.Proofs.Ytamkelcgalfkcaa
