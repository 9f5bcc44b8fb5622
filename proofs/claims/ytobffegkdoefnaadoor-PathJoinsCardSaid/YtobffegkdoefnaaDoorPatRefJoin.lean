/- The document's Join. -/
import Derived.Test.YtobffegkdoefnaaDoorPatJoin
namespace Go.Proofs.YtobffegkdoefnaaDoor
open Go.RowKit Go.MapKept Go.Shelf
namespace Pat

/-- what the document's Join answers -/
def jnr (l : List ByteArray) : Value := if IsNames l then .tuple #[.string (pth l), .bool true] else .tuple #[.string ByteArray.empty, .bool false]

theorem tail_next {l : List ByteArray} {k : Nat} (hk : k < l.length) {t : ByteArray} (h : t.data.toList = Lib.joinTail [47] ((l.take k).map (·.data.toList))) :
    (t ++ ⟨#[47]⟩ ++ l[k]).data.toList = Lib.joinTail [47] ((l.take (k + 1)).map (·.data.toList)) := by
  rw [List.take_succ_eq_append_getElem hk, List.map_append, List.map_cons, List.map_nil, joinTail_snoc, ← h, ByteArray.data_append, ByteArray.data_append]
  simp

set_option maxRecDepth 100000 in
set_option maxHeartbeats 2000000 in
theorem refJoin_any (w : World) (A : Option Addr) (c : Nat) (l : List ByteArray) (h : Txs w A l) :
    Calls Tryd.prog 16 #[.slice A l.length c] w fun e w' => e = .returned (jnr l) ∧ w' = w := by
  have hll := h.len
  have H := Lib.hid h
  clear h
  by_cases h64 : l.length ≤ 64
  · by_cases h0 : l = []
    · subst h0
      have HJ := Lib.hid (show jnr [] = .tuple #[.string ⟨#[47]⟩, .bool true] from if_pos ⟨by decide, fun n hn => by simp at hn⟩)
      go_enter Tryd.func16, Tryd.ntmps16
      go_wp2
      refine bodyPost_ret (v := .tuple #[.string ⟨#[47]⟩, .bool true]) ?_ rfl ⟨by rw [HJ.out], rfl⟩
      simp [results, Tryd.results16, go_sem]
    · have hpos : 0 < l.length := List.length_pos_iff.2 h0
      have hg : ¬ (64 : Int) < (l.length : Int) := by omega
      have hz : ((l.length : Int) == 0) = false := beq_eq_false_iff_ne.2 (by omega)
      have hz2 : ¬ (l.length : Int) = 0 := by omega
      have H0 := Lib.hid h0
      clear h0
      go_enter Tryd.func16, Tryd.ntmps16
      go_wp2
      go_loopw [4, 15] (fun sv i wr => ∃ (k : Nat) (t : ByteArray), k ≤ l.length ∧ sv = .string t ∧ i = .int .i64 (k : Int) ∧ wr = w ∧ t.size ≤ 49 * k ∧ (∀ s ∈ l.take k, Ent.Right (Crc.tx s)) ∧ t.data.toList = Lib.joinTail [47] ((l.take k).map (·.data.toList))) (fun _ i _ => l.length - (intOf i).toNat)
      case atStart => exact ⟨0, ByteArray.empty, Nat.zero_le _, rfl, rfl, rfl, Nat.zero_le _, fun s hs => by simp at hs, rfl⟩
      case round =>
        obtain ⟨k, t, hk, rfl, rfl, rfl, hsz, hr, ht⟩ := hrel
        have HR := Lib.hid hr
        have HT := Lib.hid ht
        clear hr ht
        by_cases hlt : k < l.length
        · obtain ⟨b, o, rfl, _, hc0⟩ := H.out.at' k hlt
          have hs := H.out.size _ (List.getElem_mem hlt)
          have HTK := Lib.hid (show l.take (k + 1) = l.take k ++ [l[k]] from List.take_succ_eq_append_getElem hlt)
          have HM := Lib.hid (List.getElem_mem hlt)
          have HTN := Lib.hid (tail_next hlt HT.out)
          generalize l[k] = s at *
          by_cases hr : Ent.Right (Crc.tx s)
          · have hrb : Ent.right (Crc.tx s) = true := Ent.right_iff.2 hr
            have HX := Lib.hid hr
            have hs48 : s.size ≤ 48 := by have := hr.1.2; rw [Crc.tx_len] at this; exact this
            have ha1 : t.size + 1 ≤ 9223372036854775807 := by omega
            have ha2 : t.size + 1 + s.size ≤ 9223372036854775807 := by omega
            have HSZ := Lib.hid (show (t ++ ⟨#[47]⟩ ++ s).size ≤ 49 * (k + 1) by
              rw [ByteArray.size_append, ByteArray.size_append]
              have : (⟨#[47]⟩ : ByteArray).size = 1 := rfl
              omega)
            clear hr
            go_wp2_with fail
            refine (Ent.refRight_any _ s hs).mono ?_
            rintro e w' ⟨rfl, rfl⟩
            rw [hrb]
            go_wp2
            refine ⟨⟨k + 1, _, by omega, rfl, by go_num, by first | rfl | trivial, HSZ.out, ?_, HTN.out⟩, by simp [intOf]; omega⟩
            rw [HTK.out]
            intro x hx
            rcases List.mem_append.1 hx with h1 | h1
            · exact HR.out x h1
            · obtain rfl : x = s := by simpa using h1
              exact HX.out
          · have hrb : Ent.right (Crc.tx s) = false := Ent.right_no hr
            have HX := Lib.hid (show jnr l = .tuple #[.string ByteArray.empty, .bool false] from if_neg (fun h => hr (h.2 _ HM.out)))
            clear hr
            go_wp2_with fail
            refine (Ent.refRight_any _ s hs).mono ?_
            rintro e w' ⟨rfl, rfl⟩
            rw [hrb]
            go_wp2
            refine bodyPost_ret (v := .tuple #[.string ByteArray.empty, .bool false]) ?_ rfl ⟨by rw [HX.out], rfl⟩
            simp [results, Tryd.results16, go_sem]
            rfl
        · obtain rfl : k = l.length := by omega
          rw [List.take_length] at HR HT
          have HX := Lib.hid (show jnr l = .tuple #[.string t, .bool true] by
            unfold jnr
            rw [if_pos ⟨h64, HR.out⟩]
            unfold pth
            rw [if_neg H0.out, ← HT.out])
          go_wp2
          refine bodyPost_ret (v := .tuple #[.string t, .bool true]) ?_ rfl ⟨by rw [HX.out], rfl⟩
          simp [results, Tryd.results16, go_sem]
  · have hg : (64 : Int) < (l.length : Int) := by omega
    have HJ := Lib.hid (show jnr l = .tuple #[.string ByteArray.empty, .bool false] from if_neg (fun h => h64 h.1))
    go_enter Tryd.func16, Tryd.ntmps16
    go_wp2
    refine bodyPost_ret (v := .tuple #[.string ByteArray.empty, .bool false]) ?_ rfl ⟨by rw [HJ.out], rfl⟩
    simp [results, Tryd.results16, go_sem]
    rfl
end Pat
end Go.Proofs.YtobffegkdoefnaaDoor
