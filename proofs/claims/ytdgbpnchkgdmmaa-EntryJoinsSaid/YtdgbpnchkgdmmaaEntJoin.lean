/- The program's Join. -/
import Derived.Test.YtdgbpnchkgdmmaaEntAlike
import Derived.Test.YtdgbpnchkgdmmaaEntDecodes
namespace Go.Proofs.Ytdgbpnchkgdmmaa
open Go.RowKit Go.MapKept
namespace Ent

/-- an entry's bytes -/
def eb (e : En) : List Nat := enc (Crc.tx e.1) e.2.toNat
/-- entries' bytes -/
def ebs (l : List En) : List Nat := l.flatMap eb
/-- it may be -/
def mayE (e : En) : Bool := may (Crc.tx e.1) e.2
/-- all may be, and no two have one name -/
def Joins (l : List En) : Prop := (nms l).Nodup ∧ ∀ e ∈ l, mayE e = true

theorem eb_len {e : En} (h : mayE e = true) : (eb e).length = 64 := enc_len (may_len h) _
theorem eb_byt {e : En} (h : mayE e = true) : Crc.Byt (eb e) := enc_byt (Crc.tx_byt _) (may_len h) _
theorem ebs_take {l : List En} {m : Nat} (h : m < l.length) : ebs (l.take (m + 1)) = ebs (l.take m) ++ eb l[m] := by
  unfold ebs
  rw [List.take_succ_eq_append_getElem h, List.flatMap_append]
  simp
theorem ebs_len : ∀ {l : List En}, (∀ e ∈ l, mayE e = true) → (ebs l).length = 64 * l.length
  | [], _ => rfl
  | e :: l, h => by
    have h1 := ebs_len (l := l) (fun e he => h e (List.mem_cons_of_mem _ he))
    have h2 := eb_len (h e (List.mem_cons_self ..))
    unfold ebs at h1 ⊢
    rw [List.flatMap_cons, List.length_append, h1, h2, List.length_cons]
    omega
theorem ebs_byt {l : List En} (h : ∀ e ∈ l, mayE e = true) : Crc.Byt (ebs l) := by
  intro b hb
  obtain ⟨e, he, hb⟩ := List.mem_flatMap.1 hb
  exact eb_byt (h e he) b hb

/-- a row of the call's own stays -/
theorem own_keep {W W' : World} {B n s : Nat} {t : TypeId} {v : Value} {xs : List Value} (h : W.ownsRow B t s v n xs) (hb : Below W.heap.size W W') : W'.ownsRow B t s v n xs := by
  refine ⟨h.1, ?_⟩
  rcases h.2 with h0 | ⟨g, cap, cur, e, hg, hh, r⟩
  · exact .inl h0
  · exact .inr ⟨g, cap, cur, e, hg, (hb.block g (Array.getElem?_eq_some_iff.1 hh).1).trans hh, r⟩

set_option maxHeartbeats 1000000 in
theorem join_twice (w : World) (A : Option Addr) (c n : Nat) (l : List En) (h : Es w A l) (hn : n = l.length) (ht : twice (nms l) = true) :
    Calls Try.prog 20 #[.slice A n c] w fun r w' => r = .returned (.tuple #[.slice none 0 0, .int .i64 1]) ∧ Below w.heap.size w w' := by
  have HA := Lib.hid (alike_any w A c n l h hn)
  rw [ht] at HA
  clear h ht hn
  go_enter Try.func20, Try.ntmps20
  go_wp2_with fail
  refine HA.out.mono ?_
  rintro e w1 ⟨rfl, hb⟩
  have HB := Lib.hid hb
  clear hb
  go_wp2
  go_ret2
  exact ⟨rfl, HB.out⟩

/-- what Join leaves of entries that may be -/
def JoinsTo (w : World) (l : List En) (r : Ending) (w' : World) : Prop := ∃ (G : Option Addr) (gc : Nat), r = .returned (.tuple #[.slice G (64 * l.length) gc, .int .i64 0]) ∧ 64 * l.length ≤ gc ∧ Crc.Bts w' G (ebs l) ∧ Below w.heap.size w w'

set_option maxHeartbeats 2000000 in
set_option maxRecDepth 100000 in
theorem join_core (w : World) (A : Option Addr) (c : Nat) (l : List En) (h : Es w A l) (h1000 : l.length ≤ 1000) (ht : twice (nms l) = false) :
    Calls Try.prog 20 #[.slice A l.length c] w fun r w' => ((∀ e ∈ l, mayE e = true) → JoinsTo w l r w') ∧ ((∃ e ∈ l, mayE e = false) → r = .returned (.tuple #[.slice none 0 0, .int .i64 1]) ∧ Below w.heap.size w w') := by
  have HA := Lib.hid (alike_any w A c l.length l h rfl)
  rw [ht] at HA
  have H := Lib.hid h
  clear h ht
  go_enter Try.func20, Try.ntmps20
  go_wp2_with fail
  refine HA.out.mono ?_
  rintro e w1 ⟨rfl, hb⟩
  have HB1 := Lib.hid hb
  have H1 := Lib.hid (H.out.keep hb)
  clear hb HA H
  obtain ⟨i0, hi0, hz0, hz1, hz2⟩ := info_parts Crc.u8_info
  obtain ⟨w2, hmk, hown, hgr⟩ := run_make_own (P := Try.prog) w1 w1.heap.size 29 5 i0 (.int .u8 0) 1 Try.underlying29 hi0 hz0 hz1 .i64 .i64 (l.length * 64) (by rw [hz2]; omega) (by unfold maxLen; omega) (Nat.le_refl _)
  have HOW := Lib.hid (show Crc.Got w1 w2 (some ⟨w1.heap.size, 0, none⟩) 0 (l.length * 64) [] from ⟨hown, (Below.refl _ _).grown hgr (Nat.le_refl _) (fun k hk => by cases hk)⟩)
  have hmk2 : ((l.length * 64 : Nat) : Int) = (l.length : Int) * 64 := by omega
  rw [hmk2] at hmk
  clear hown hgr hmk2
  go_wp2
  go_loopw [4, 17] (fun v i wr => ∃ (m : Nat) (G : Option Addr) (gc : Nat), m ≤ l.length ∧ i = .int .i64 (m : Int) ∧ v = .slice G (64 * m) gc ∧ Crc.Got w1 wr G (64 * m) gc (ebs (l.take m)) ∧ ∀ e ∈ l.take m, mayE e = true) (fun _ i _ => l.length - (intOf i).toNat)
  case atStart => exact ⟨0, _, _, Nat.zero_le _, rfl, rfl, HOW.out, fun e he => by simp at he⟩
  case round =>
    obtain ⟨m, G, gc, hm, rfl, rfl, hgot, hmy⟩ := hrel
    have HMY := Lib.hid hmy
    clear hmk hmy HOW
    by_cases hlt : m < l.length
    · obtain ⟨b, o, rfl, hbb, hc0, hc1⟩ := H1.out.at' m hlt
      have hc0 := (hgot.2.cell (p := ⟨b, o + m * 2, none⟩) hbb).trans hc0
      have hc1 := (hgot.2.cell (p := ⟨b, o + m * 2 + 1, none⟩) hbb).trans hc1
      have hs := H1.out.size _ (List.getElem_mem hlt)
      have HR := Lib.hid (ebs_take hlt)
      have HTK := Lib.hid (show l.take (m + 1) = l.take m ++ [l[m]] from List.take_succ_eq_append_getElem hlt)
      have HMEM := Lib.hid (List.getElem_mem hlt)
      have HG := Lib.hid hgot
      clear hgot
      generalize l[m] = e at *
      obtain ⟨s, i⟩ := e
      simp only at hc0 hc1 hs
      have hba := (Below.refl wr.heap.size wr).alloc (Nat.le_refl _) (.cells #[.string s, .int .i64 i] 23)
      cases hme : may (Crc.tx s) i with
      | false =>
        go_wp2_with fail
        refine (encode_no _ s i hs hme).mono ?_
        rintro e w3 ⟨rfl, hb3⟩
        have HB3 := Lib.hid (HG.out.2.trans ((hba.trans (hb3.mono hba.size)).mono HG.out.2.size))
        clear hb3 hba
        have HF := Lib.hid (show mayE (s, i) = false from hme)
        clear hme
        go_wp2
        go_ret2
        refine ⟨fun hall => ?_, fun _ => ⟨rfl, HB1.out.trans (HB3.out.mono HB1.out.size)⟩⟩
        have := hall _ HMEM.out
        rw [HF.out] at this
        cases this
      | true =>
        obtain ⟨k, rfl, hk⟩ := may_nat hme
        go_wp2_with fail
        refine (encode_yes _ s k hme).mono ?_
        rintro e w3 ⟨g, hg, rfl, hr, hb3⟩
        have hb4 := hba.trans (hb3.mono hba.size)
        have HE := Lib.hid (show eb (s, (k : Int)) = enc (Crc.tx s) k from rfl)
        have HME := Lib.hid (show mayE (s, (k : Int)) = true from hme)
        have hen := enc_len (may_len hme) k
        have hbt := row_enc hr hen (enc_byt (Crc.tx_byt s) (may_len hme) k)
        have HU8 := Lib.hid (show (Crc.u8s (enc (Crc.tx s) k)).length = 64 * 1 by simp [Crc.u8s, hen])
        have HNW := Lib.hid (bts_news hbt)
        have HRW := Lib.hid (HG.out.1)
        have hown3 : w3.ownsRow w1.heap.size 5 1 (.slice G (64 * m) gc) (64 * m) (Crc.u8s (ebs (l.take m))) := own_keep HG.out.1 hb4
        have HOWN := Lib.hid hown3
        have HB3 := Lib.hid (HG.out.2.trans (hb4.mono HG.out.2.size))
        clear hba hb3 hb4 hr hbt hen hme hown3 hg
        go_wp2_with (at_builtin; refine wpList_append_own_at _ rfl (.tmp 29) (.tmp 30) 29 rfl w1.heap.size 5 i0 (.int .u8 0) 1 1 Try.underlying29 hi0 hz0 hz1 hz2 rfl (by decide) (.slice G (64 * m) gc) (64 * m) (Crc.u8s (ebs (l.take m))) rfl HOWN.out ⟨g, 0, none⟩ 64 64 (Crc.u8s (enc (Crc.tx s) k)) rfl HU8.out HNW.out (Crc.u8s_one _) (by unfold maxLen; omega) (by omega) (by have := HB3.out.size; omega) ?_
                     intro v' w4 hown4 hgr4 _ _
                     obtain ⟨G', gc', rfl⟩ := Crc.row_slice hown4
                     have HO4 := Lib.hid hown4
                     have HG4 := Lib.hid hgr4
                     clear hown4 hgr4)
        refine ⟨⟨m + 1, G', gc', by omega, by go_num, rfl, ⟨?_, ?_⟩, ?_⟩, by simp [intOf]; omega⟩
        · rw [HR.out, HE.out]
          have e : Crc.u8s (ebs (l.take m) ++ enc (Crc.tx s) k) = Crc.u8s (ebs (l.take m)) ++ Crc.u8s (enc (Crc.tx s) k) := by
            simp only [Crc.u8s, List.map_append]
          rw [e]
          exact HO4.out
        · exact HB3.out.grown HG4.out HB3.out.size (fun k hk => Crc.row_base_lt HRW.out hk)
        · rw [HTK.out]
          intro e he
          rcases List.mem_append.1 he with h1 | h1
          · exact HMY.out e h1
          · obtain rfl : e = (s, (k : Int)) := by simpa using h1
            exact HME.out
    · obtain rfl : m = l.length := by omega
      rw [List.take_length] at hgot HMY
      have HBT := Lib.hid (Crc.own_bts hgot.1 (ebs_byt HMY.out) (by omega))
      have HC := Lib.hid (row_cap hgot.1)
      have HB := Lib.hid (HB1.out.trans (hgot.2.mono HB1.out.size))
      clear hgot
      go_wp2
      go_ret2
      refine ⟨fun _ => ⟨G, gc, rfl, HC.out, HBT.out, HB.out⟩, fun ⟨e, he, hf⟩ => ?_⟩
      rw [HMY.out e he] at hf
      cases hf
end Ent
end Go.Proofs.Ytdgbpnchkgdmmaa
