/- The program's Split. -/
import Derived.Test.YtobffegkdoefnaaDoorPatSplit
namespace Go.Proofs.YtobffegkdoefnaaDoor
open Go.RowKit Go.MapKept Go.Shelf
namespace Pat

set_option maxHeartbeats 1000000 in
theorem cutPrefix_yes (w : World) (s : ByteArray) (hs : s.size ≤ 9223372036854775807) (h0 : 0 < s.size) (hb : s[0] = 47) :
    Calls Tryd.prog 20 #[.string s, .string ⟨#[47]⟩] w fun e w' => e = .returned (.tuple #[.string (s.extract 1 s.size), .bool true]) ∧ w' = w := by
  have h1 := head_text h0
  rw [hb] at h1
  have h2 : ((s.extract 0 1).toList == [47]) = true := by rw [h1]; rfl
  have h3 : (1 : Int) ≤ (s.size : Int) := by omega
  clear hb
  go_enter Tryd.func20, Tryd.ntmps20
  go_wp2
  refine bodyPost_ret (v := .tuple #[.string (s.extract 1 s.size), .bool true]) ?_ rfl ⟨rfl, rfl⟩
  simp [results, Tryd.results20, go_sem]
set_option maxHeartbeats 1000000 in
theorem cutPrefix_no (w : World) (s : ByteArray) (hs : s.size ≤ 9223372036854775807) (h : ∀ h0 : 0 < s.size, s[0] ≠ 47) :
    Calls Tryd.prog 20 #[.string s, .string ⟨#[47]⟩] w fun e w' => e = .returned (.tuple #[.string s, .bool false]) ∧ w' = w := by
  by_cases h0 : 0 < s.size
  · have h1 := head_text h0
    have hb := h h0
    have h2 : ((s.extract 0 1).toList == [47]) = false := by rw [h1]; simpa using hb
    have h4 : ¬ (s.extract 0 1).toList = [47] := by rw [h1]; simpa using hb
    have h3 : (1 : Int) ≤ (s.size : Int) := by omega
    clear h hb h1
    go_enter Tryd.func20, Tryd.ntmps20
    go_wp2
    refine bodyPost_ret (v := .tuple #[.string s, .bool false]) ?_ rfl ⟨rfl, rfl⟩
    simp [results, Tryd.results20, go_sem]
  · have h3 : ¬ (1 : Int) ≤ (s.size : Int) := by omega
    clear h
    go_enter Tryd.func20, Tryd.ntmps20
    go_wp2
    refine bodyPost_ret (v := .tuple #[.string s, .bool false]) ?_ rfl ⟨rfl, rfl⟩
    simp [results, Tryd.results20, go_sem]

set_option maxRecDepth 100000 in
set_option maxHeartbeats 1000000 in
theorem split_any (w : World) (s : ByteArray) (hs : s.size < 4294967281) :
    Calls Tryd.prog 13 #[.string s] w (SplR w s) := by
  have hs2 : s.size ≤ 9223372036854775807 := by omega
  have hsz : (s.extract 1 s.size).size < 4294967281 := by rw [ByteArray.size_extract]; omega
  by_cases hr : s.toList = [47]
  · have HX := Lib.hid (show SplR w s (.returned (.tuple #[.slice none 0 0, .int .i64 0])) w from ⟨Below.refl _ _, .inl ⟨[], none, 0, spl_root hr, rfl, Nat.le_refl _, txs_nil _ _⟩⟩)
    go_enter Tryd.func13, Tryd.ntmps13
    go_wp2
    refine bodyPost_ret (v := .tuple #[.slice none 0 0, .int .i64 0]) ?_ rfl HX.out
    simp [results, Tryd.results13, go_sem]
  · have hr1 : (s.toList == [47]) = false := by simpa using hr
    by_cases hh : ∀ h0 : 0 < s.size, s[0] ≠ 47
    · have HX := Lib.hid (show SplR w s (.returned (.tuple #[.slice none 0 0, .int .i64 3])) w from ⟨Below.refl _ _, .inr ⟨spl_other hh, rfl⟩⟩)
      have HC := Lib.hid (cutPrefix_no w s hs2 hh)
      clear hh
      go_enter Tryd.func13, Tryd.ntmps13
      go_wp2_with fail
      refine HC.out.mono ?_
      rintro e w1 ⟨rfl, rfl⟩
      go_wp2
      refine bodyPost_ret (v := .tuple #[.slice none 0 0, .int .i64 3]) ?_ rfl HX.out
      simp [results, Tryd.results13, go_sem]
    · obtain ⟨h0, hb⟩ : ∃ h0 : 0 < s.size, s[0] = 47 := by
        by_cases h0 : 0 < s.size
        · refine ⟨h0, ?_⟩
          by_cases hb : s[0] = 47
          · exact hb
          · exact absurd (fun _ => hb) hh
        · exact absurd (fun h => absurd h h0) hh
      have hsp := spl_cons h0 hb hr
      have HC := Lib.hid (cutPrefix_yes w s hs2 h0 hb)
      have HN := Lib.hid (splitN_any w (s.extract 1 s.size) hsz)
      clear hh hb
      generalize s.extract 1 s.size = r at *
      by_cases hn : IsNames (Lib.splitB ⟨#[47]⟩ 0 (min 65 (r.size + 1) - 1) r)
      · have hnb : isNames (Lib.splitB ⟨#[47]⟩ 0 (min 65 (r.size + 1) - 1) r) = true := decide_eq_true hn
        have hfew : (cut r.data.toList).length ≤ 64 := by
          by_cases h : (cut r.data.toList).length ≤ 64
          · exact h
          · have h1 := pieces_many h
            have := hn.1
            omega
        have hpc := pieces_few hfew
        have hsp2 : spl s = some (Lib.splitB ⟨#[47]⟩ 0 (min 65 (r.size + 1) - 1) r) := by
          rw [hsp, ← hpc, if_pos hn]
        have HS := Lib.hid hsp2
        clear hsp hfew hpc hn hsp2
        generalize Lib.splitB ⟨#[47]⟩ 0 (min 65 (r.size + 1) - 1) r = l at *
        go_enter Tryd.func13, Tryd.ntmps13
        go_wp2_with fail
        refine HC.out.mono ?_
        rintro e w1 ⟨rfl, rfl⟩
        go_wp2_with fail
        refine HN.out.mono ?_
        rintro e w2 ⟨A, rfl, hc, ht, hb⟩
        have HT := Lib.hid ht
        have HX := Lib.hid (show SplR w1 s (.returned (.tuple #[.slice A l.length (min 65 (r.size + 1)), .int .i64 0])) w2 from ⟨hb, .inl ⟨l, A, _, HS.out, rfl, hc, ht⟩⟩)
        clear hc ht hb
        generalize min 65 (r.size + 1) = c at *
        go_wp2_with fail
        refine (right_any w2 A c l.length l HT.out rfl).mono ?_
        rintro e w3 ⟨rfl, rfl⟩
        rw [hnb]
        go_wp2
        refine bodyPost_ret (v := .tuple #[.slice A l.length c, .int .i64 0]) ?_ rfl HX.out
        simp [results, Tryd.results13, go_sem]
      · have hnb : isNames (Lib.splitB ⟨#[47]⟩ 0 (min 65 (r.size + 1) - 1) r) = false := decide_eq_false hn
        have hsp2 : spl s = none := by
          rw [hsp]
          refine if_neg (fun h => hn ?_)
          have hfew : (cut r.data.toList).length ≤ 64 := by
            have := h.1
            rw [List.length_map] at this
            exact this
          rw [pieces_few hfew]
          exact h
        have HS := Lib.hid hsp2
        clear hsp hn hsp2
        generalize Lib.splitB ⟨#[47]⟩ 0 (min 65 (r.size + 1) - 1) r = l at *
        go_enter Tryd.func13, Tryd.ntmps13
        go_wp2_with fail
        refine HC.out.mono ?_
        rintro e w1 ⟨rfl, rfl⟩
        go_wp2_with fail
        refine HN.out.mono ?_
        rintro e w2 ⟨A, rfl, hc, ht, hb⟩
        have HT := Lib.hid ht
        have HX := Lib.hid (show SplR w1 s (.returned (.tuple #[.slice none 0 0, .int .i64 3])) w2 from ⟨hb, .inr ⟨HS.out, rfl⟩⟩)
        clear hc ht hb
        generalize min 65 (r.size + 1) = c at *
        go_wp2_with fail
        refine (right_any w2 A c l.length l HT.out rfl).mono ?_
        rintro e w3 ⟨rfl, rfl⟩
        rw [hnb]
        go_wp2
        refine bodyPost_ret (v := .tuple #[.slice none 0 0, .int .i64 3]) ?_ rfl HX.out
        simp [results, Tryd.results13, go_sem]
end Pat
end Go.Proofs.YtobffegkdoefnaaDoor
