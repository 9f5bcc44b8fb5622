/- The laws of Split and of Join. -/
import Derived.Test.YtobffegkdoefnaaDoorPatRefSplit
import Derived.Test.YtobffegkdoefnaaDoorPatRefJoin
namespace Go.Proofs.YtobffegkdoefnaaDoor
open Go.RowKit Go.MapKept Go.Shelf
namespace Pat

theorem pth_size {l : List ByteArray} (h : IsNames l) : (pth l).size ≤ 10001 := by
  have := lens_le h
  rw [pth_join, Lib.size_eq, data_mk]
  simp
  omega

set_option maxRecDepth 100000 in
set_option maxHeartbeats 2000000 in
theorem splits_law (w : World) (s : ByteArray) (hs : s.size ≤ 9223372036854775807) :
    Calls Tryd.prog 4 #[.string s] w fun e w' => e = .returned (.bool true) ∧ Below w.heap.size w w' := by
  have HL := Lib.hid lives_any
  go_enter Tryd.func4, Tryd.ntmps4
  go_wp2_with fail
  refine (HL.out _).mono ?_
  rintro e w1 ⟨rfl, hb⟩
  have HB1 := Lib.hid hb
  clear hb
  by_cases h4 : (4000 : Int) < (s.size : Int)
  · go_wp2_with fail
    refine (HL.out _).mono ?_
    rintro e w2 ⟨rfl, hb⟩
    have HB := Lib.hid (HB1.out.trans (hb.mono HB1.out.size))
    clear hb
    go_wp2
    go_ret
    exact ⟨rfl, HB.out⟩
  · have hsz : s.size < 4294967281 := by omega
    go_wp2_with fail
    refine (split_any w1 s hsz).mono ?_
    rintro e w2 ⟨hb2, h | h⟩
    · obtain ⟨l, A, c, hsp, rfl, hc, ht⟩ := h
      have HT2 := Lib.hid ht
      have HB2 := Lib.hid (HB1.out.trans (hb2.mono HB1.out.size))
      have HSP := Lib.hid hsp
      have HC := Lib.hid hc
      clear hb2 ht hsp hc
      go_wp2_with fail
      refine (refSplit_any w2 s hsz).mono ?_
      rintro e w3 ⟨hb3, h⟩
      obtain ⟨B, d, rfl, ht⟩ : ∃ B d, e = .returned (.tuple #[.slice B l.length d, .bool true]) ∧ Txs w3 B l := by
        rcases h with ⟨l', B, d, hsp, he, ht⟩ | ⟨hsp, _⟩
        · rw [HSP.out] at hsp
          injection hsp with hsp
          subst hsp
          exact ⟨B, d, he, ht⟩
        · rw [HSP.out] at hsp
          cases hsp
      have HT3 := Lib.hid (HT2.out.keep hb3)
      have HU3 := Lib.hid ht
      have HB3 := Lib.hid (HB2.out.trans (hb3.mono HB2.out.size))
      clear h hb3 ht HT2
      go_wp2_with fail
      refine (same_self w3 A B c d l.length l rfl HT3.out HU3.out).mono ?_
      rintro e w4 ⟨rfl, n4, hw4⟩
      have HT4 := Lib.hid (show Txs w4 A l by rw [hw4]; exact HT3.out.drewN n4)
      have HB4 := Lib.hid (show Below w.heap.size w w4 by rw [hw4]; exact below_drewN HB3.out n4)
      clear hw4 HT3 HU3
      obtain ⟨hn, hp⟩ := pth_spl HSP.out
      have HJ := Lib.hid (show jn l = .tuple #[.string s, .int .i64 0] by unfold jn; rw [if_pos hn, hp])
      clear hn hp
      have hss : (s.toList == s.toList) = true := beq_self_eq_true _
      go_wp2_with fail
      refine (join_any w4 A c l HT4.out HC.out).mono ?_
      rintro e w5 ⟨he, hb5⟩
      rw [HJ.out] at he
      subst he
      have HB5 := Lib.hid (HB4.out.trans (hb5.mono HB4.out.size))
      clear hb5
      go_wp2
      go_ret
      exact ⟨rfl, HB5.out⟩
    · obtain ⟨hsp, rfl⟩ := h
      have HB2 := Lib.hid (HB1.out.trans (hb2.mono HB1.out.size))
      have HSP := Lib.hid hsp
      clear hb2 hsp
      go_wp2_with fail
      refine (refSplit_any w2 s hsz).mono ?_
      rintro e w3 ⟨hb3, h⟩
      obtain rfl : e = .returned (.tuple #[.slice none 0 0, .bool false]) := by
        rcases h with ⟨l', B, d, hsp, _⟩ | ⟨_, he⟩
        · rw [HSP.out] at hsp
          cases hsp
        · exact he
      have HB3 := Lib.hid (HB2.out.trans (hb3.mono HB2.out.size))
      clear h hb3
      go_wp2_with fail
      refine (same_self w3 none none 0 0 0 [] rfl (txs_nil _ _) (txs_nil _ _)).mono ?_
      rintro e w4 ⟨rfl, n4, hw4⟩
      have HB4 := Lib.hid (show Below w.heap.size w w4 by rw [hw4]; exact below_drewN HB3.out n4)
      clear hw4
      go_wp2
      go_ret
      exact ⟨rfl, HB4.out⟩

set_option maxRecDepth 100000 in
set_option maxHeartbeats 2000000 in
theorem joins_law (w : World) (A : Option Addr) (c : Nat) (l : List ByteArray) (h : Txs w A l) (hc : l.length ≤ c) :
    Calls Tryd.prog 5 #[.slice A l.length c] w fun e w' => e = .returned (.bool true) ∧ Below w.heap.size w w' := by
  have HL := Lib.hid lives_any
  have H := Lib.hid h
  clear h
  go_enter Tryd.func5, Tryd.ntmps5
  go_wp2_with fail
  refine (HL.out _).mono ?_
  rintro e w1 ⟨rfl, hb⟩
  have HB1 := Lib.hid hb
  have H1 := Lib.hid (H.out.keep hb)
  clear hb H
  go_wp2_with fail
  refine (few_any w1 A c l H1.out).mono ?_
  rintro e w2 ⟨rfl, rfl⟩
  cases hfl : few l with
  | false =>
    go_wp2_with fail
    refine (HL.out _).mono ?_
    rintro e w3 ⟨rfl, hb⟩
    have HB := Lib.hid (HB1.out.trans (hb.mono HB1.out.size))
    clear hb
    go_wp2
    go_ret
    exact ⟨rfl, HB.out⟩
  | true =>
    go_wp2_with fail
    refine (join_any w2 A c l H1.out hc).mono ?_
    rintro e w3 ⟨he, hb3⟩
    have H3 := Lib.hid (H1.out.keep hb3)
    have HB3 := Lib.hid (HB1.out.trans (hb3.mono HB1.out.size))
    clear hb3 H1
    by_cases hn : IsNames l
    · rw [show jn l = .tuple #[.string (pth l), .int .i64 0] from if_pos hn] at he
      subst he
      have HJR := Lib.hid (show jnr l = .tuple #[.string (pth l), .bool true] from if_pos hn)
      have HSP := Lib.hid (spl_pth hn)
      have hsz : (pth l).size < 4294967281 := by have := pth_size hn; omega
      clear hn
      generalize pth l = s at *
      go_wp2_with fail
      refine (refJoin_any w3 A c l H3.out).mono ?_
      rintro e w4 ⟨he, rfl⟩
      rw [HJR.out] at he
      subst he
      have hss : (s.toList == s.toList) = true := beq_self_eq_true _
      go_wp2_with fail
      refine (split_any w4 s hsz).mono ?_
      rintro e w5 ⟨hb5, h⟩
      obtain ⟨B, d, rfl, ht⟩ : ∃ B d, e = .returned (.tuple #[.slice B l.length d, .int .i64 0]) ∧ Txs w5 B l := by
        rcases h with ⟨l', B, d, hsp, he, _, ht⟩ | ⟨hsp, _⟩
        · rw [HSP.out] at hsp
          injection hsp with hsp
          subst hsp
          exact ⟨B, d, he, ht⟩
        · rw [HSP.out] at hsp
          cases hsp
      have H5 := Lib.hid (H3.out.keep hb5)
      have HU5 := Lib.hid ht
      have HB5 := Lib.hid (HB3.out.trans (hb5.mono HB3.out.size))
      clear h hb5 ht H3
      go_wp2_with fail
      refine (same_self w5 B A d c l.length l rfl HU5.out H5.out).mono ?_
      rintro e w6 ⟨rfl, n6, hw6⟩
      have HB6 := Lib.hid (show Below w.heap.size w w6 by rw [hw6]; exact below_drewN HB5.out n6)
      clear hw6
      go_wp2
      go_ret
      exact ⟨rfl, HB6.out⟩
    · rw [show jn l = .tuple #[.string ByteArray.empty, .int .i64 3] from if_neg hn] at he
      subst he
      have HJR := Lib.hid (show jnr l = .tuple #[.string ByteArray.empty, .bool false] from if_neg hn)
      clear hn
      go_wp2_with fail
      refine (refJoin_any w3 A c l H3.out).mono ?_
      rintro e w4 ⟨he, rfl⟩
      rw [HJR.out] at he
      subst he
      have hss : (ByteArray.empty.toList == ByteArray.empty.toList) = true := beq_self_eq_true _
      go_wp2
      go_ret
      exact ⟨rfl, HB3.out⟩
end Pat
end Go.Proofs.YtobffegkdoefnaaDoor
