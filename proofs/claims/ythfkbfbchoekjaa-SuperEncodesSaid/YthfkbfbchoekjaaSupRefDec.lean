/- The document's decoding. -/
import Derived.Test.YthfkbfbchoekjaaSupRef
namespace Go.Proofs.Ythfkbfbchoekjaa
open Go.RowKit Go.MapKept
namespace Sup

/-- the numbers, and whether there are any -/
def rv : Option (Nat × Nat × Nat) → Value
  | some (n, m, s) => .tuple #[.int .i64 (n : Int), .int .i64 (m : Int), .int .i64 (s : Int), .bool true]
  | none => .tuple #[.int .i64 0, .int .i64 0, .int .i64 0, .bool false]

section
variable {w : World}
set_option maxHeartbeats 2000000 in
set_option maxRecDepth 100000 in
theorem refDecode_any (A : Option Addr) (c : Nat) (l : List Nat) (h : Pack.Wds w A l) :
    Calls Try.prog 12 #[.slice A l.length c] w fun r w' => r = .returned (rv (dec l)) ∧ Below w.heap.size w w' := by
  have hlen := h.len
  by_cases hl : l.length = 8
  · rw [hl]
    obtain ⟨b, o, rfl, hb, hcell⟩ := h.at' 1 (by omega)
    have hx := h.u64 l[1] (List.getElem_mem _)
    have HD := Lib.hid (show l[1]?.getD 0 = l[1] by rw [List.getElem?_eq_getElem (by omega)]; rfl)
    have H := Lib.hid h
    have HL := Lib.hid hl
    clear h
    generalize l[1] = x at *
    clear hl
    have hxi : (x : Int) < 18446744073709551616 := by omega
    have hx0 : (0 : Int) ≤ (x : Int) := by omega
    by_cases h48 : x < 281474976710656
    · obtain ⟨n, hn⟩ : ∃ n, n = x % 65536 := ⟨_, rfl⟩
      obtain ⟨m, hm⟩ : ∃ m, m = x / 65536 % 65536 := ⟨_, rfl⟩
      obtain ⟨s, hs⟩ : ∃ s, s = x / 4294967296 := ⟨_, rfl⟩
      have hn1 : n < 65536 := by omega
      have hm1 : m < 65536 := by omega
      have hs1 : s < 65536 := by omega
      have HD := Lib.hid (show dec l = if Geo.may n m s = true ∧ l = sb n m s then some (n, m, s) else none by
        unfold dec
        simp only [HD.out, ← hn, ← hm, ← hs]
        by_cases hc : Geo.may n m s = true ∧ l = sb n m s
        · rw [if_pos hc, if_pos ⟨HL.out, h48, hc⟩]
        · rw [if_neg hc, if_neg (fun h => hc h.2.2)])
      have hn2 : (x : Int) % 65536 = (n : Int) := by omega
      have hm2 : (x : Int) / 65536 % 65536 = (m : Int) := by omega
      have hs2 : (x : Int) / 4294967296 = (s : Int) := by omega
      clear hn hm hs h48
      cases hmay : Geo.may n m s with
      | false =>
        have HN := Lib.hid (show dec l = none by rw [HD.out, if_neg (fun h => by rw [hmay] at h; simp at h)])
        have hE := refEncode_no w n m s hmay
        rw [← hn2, ← hm2, ← hs2] at hE
        have HE := Lib.hid hE
        have h48' : ¬ (65535 : Int) < (x : Int) / 4294967296 := by omega
        clear hmay HD hE hn2 hm2 hs2
        go_enter Try.func12, Try.ntmps12
        go_wp2_with fail
        refine HE.out.mono ?_
        rintro e w1 ⟨rfl, hb1⟩
        have HB1 := Lib.hid hb1
        clear hb1
        go_wp2
        rw [HN.out]
        refine bodyPost_ret (v := rv none) ?_ rfl ⟨rfl, HB1.out⟩
        simp [results, Try.results12, go_sem, rv]
      | true =>
        have hE := refEncode_yes w n m s hmay
        rw [← hn2, ← hm2, ← hs2] at hE
        have HE := Lib.hid hE
        have HM := Lib.hid hmay
        have h48' : ¬ (65535 : Int) < (x : Int) / 4294967296 := by omega
        have HN2 := Lib.hid hn2
        have HM2 := Lib.hid hm2
        have HS2 := Lib.hid hs2
        clear hmay hE hn2 hm2 hs2
        go_enter Try.func12, Try.ntmps12
        go_wp2_with fail
        refine HE.out.mono ?_
        rintro e w1 ⟨G, gc, rfl, hw, hb1⟩
        have HB1 := Lib.hid hb1
        have H1 := Lib.hid (H.out.keep hb1)
        have HG := Lib.hid hw
        rw [HN2.out, HM2.out, HS2.out]
        clear hb1 hw HE hcell H HN2 HM2 HS2 h48' hx hxi hx0 hlen hn1 hm1 hs1
        go_wp2
        go_loopw [47] (fun i wr => ∃ (k q : Nat), k ≤ 8 ∧ i = .int .i64 (k : Int) ∧ (sb n m s).take k = l.take k ∧ wr = w1.drewN q) (fun i _ => 8 - (intOf i).toNat)
        case atStart => exact ⟨0, 0, Nat.zero_le _, rfl, rfl, rfl⟩
        case round =>
          obtain ⟨k, q, hk, rfl, hs, rfl⟩ := hrel
          have HS := Lib.hid hs
          clear hs
          by_cases hlt : k < 8
          · have hlt1 : k < (sb n m s).length := hlt
            have hlt2 : k < l.length := by rw [HL.out]; exact hlt
            obtain ⟨b1, o1, rfl, hb1, hcell1⟩ := HG.out.at' k hlt1
            obtain ⟨b2, o2, e, hb2, hcell2⟩ := H1.out.at' k hlt2
            injection e with e
            injection e with e1 e2
            subst e1 e2
            have hi0 : (0 : Int) ≤ (k : Int) := by omega
            have hi1 : (k : Int) < 8 := by omega
            have HE := Lib.hid (show (sb n m s).take (k + 1) = l.take (k + 1) ↔ (sb n m s)[k] = l[k] by
              rw [List.take_succ_eq_append_getElem hlt1, List.take_succ_eq_append_getElem hlt2, HS.out, List.append_right_inj]
              simp)
            generalize (sb n m s)[k] = y at *
            generalize l[k] = z at *
            clear hlt1 hlt2
            by_cases hyz : y = z
            · subst hyz
              have HE1 := Lib.hid (HE.out.2 rfl)
              clear HE
              go_wp2
              go_quiet (fail)
              go_wp2
              refine ⟨⟨k + 1, q + nq, by omega, by go_num, HE1.out, rfl⟩, by simp [intOf]; omega⟩
            · have hne : ¬ (y : Int) = (z : Int) := by omega
              have HN := Lib.hid (show dec l = none by rw [HD.out, if_neg (fun h => hyz (HE.out.1 (by rw [h.2])))])
              clear HE hyz
              go_wp2
              go_quiet (fail)
              clear hi0 hi1 hcell1 hcell2
              go_wp2
              rw [HN.out]
              refine bodyPost_ret (v := rv none) ?_ rfl ⟨rfl, ?_⟩
              · simp [results, Try.results12, go_sem, rv]
              · exact Pack.below_drewN (Pack.below_drewN HB1.out _) _
          · obtain rfl : k = 8 := by omega
            have he : l = sb n m s := by
              have := HS.out
              rw [List.take_of_length_le (by rw [sb_len]; omega), List.take_of_length_le (by rw [HL.out]; omega)] at this
              exact this.symm
            have HN := Lib.hid (show dec l = some (n, m, s) by rw [HD.out, if_pos ⟨HM.out, he⟩])
            clear he
            go_wp2
            rw [HN.out]
            refine bodyPost_ret (v := rv (some (n, m, s))) ?_ rfl ⟨rfl, ?_⟩
            · simp [results, Try.results12, go_sem, rv]
            · exact Pack.below_drewN HB1.out _
    · have HN := Lib.hid (show dec l = none by
        unfold dec
        simp only [HD.out]
        exact if_neg (fun h => h48 h.2.1))
      have h48' : (65535 : Int) < (x : Int) / 4294967296 := by omega
      go_enter Try.func12, Try.ntmps12
      go_wp2
      rw [HN.out]
      refine bodyPost_ret (v := rv none) ?_ rfl ⟨rfl, Below.refl _ _⟩
      simp [results, Try.results12, go_sem, rv]
  · have HN := Lib.hid (show dec l = none by
      unfold dec
      exact if_neg (fun h => hl h.1))
    have hl' : ¬ (l.length : Int) = 8 := by omega
    go_enter Try.func12, Try.ntmps12
    go_wp2
    rw [HN.out]
    refine bodyPost_ret (v := rv none) ?_ rfl ⟨rfl, Below.refl _ _⟩
    simp [results, Try.results12, go_sem, rv]
end
end Sup
end Go.Proofs.Ythfkbfbchoekjaa
