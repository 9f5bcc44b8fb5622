/- The document's Decode. -/
import Derived.Test.YtdgbpnchkgdmmaaEntRef
namespace Go.Proofs.Ytdgbpnchkgdmmaa
open Go.RowKit Go.MapKept
namespace Ent

/-- is there one? -/
def iv : Option (List Nat × Nat) → Bool
  | some _ => true
  | none => false

theorem tx_extract (s : ByteArray) (a b : Nat) : Crc.tx (s.extract a b) = ((Crc.tx s).drop a).take (b - a) := by
  unfold Crc.tx
  rw [ByteArray.data_extract, Array.toList_extract, List.extract_eq_take_drop, List.map_take, List.map_drop]
theorem tx_at {s : ByteArray} {i : Nat} (h : i < s.size) : at' (Crc.tx s) i = (s[i]'h).toNat := Crc.tx_get h

set_option maxHeartbeats 1000000 in
theorem refDecode_len (w : World) (s : ByteArray) (h64 : s.size ≠ 64) :
    Calls Try.prog 17 #[.string s] w fun r w' => r = .returned (.tuple #[gv none, .bool (iv none)]) ∧ Below w.heap.size w w' := by
  have hne : ((s.size : Int) != 64) = true := by simp; omega
  go_enter Try.func17, Try.ntmps17
  go_wp2
  refine bodyPost_ret (v := .tuple #[gv none, .bool (iv none)]) ?_ rfl ⟨rfl, ?_⟩
  · simp [results, Try.results17, go_sem, gv, iv]
  · first
    | exact (Below.refl _ _).alloc (Nat.le_refl _) _
    | exact (((Below.refl _ _).alloc (Nat.le_refl _) _).setCell (by simp) _).setCell (by simp) _

set_option maxHeartbeats 1000000 in
theorem refDecode_name (w : World) (s : ByteArray) (h64 : s.size = 64) (hn : ¬ at' (Crc.tx s) 2 ≤ 48) :
    Calls Try.prog 17 #[.string s] w fun r w' => r = .returned (.tuple #[gv none, .bool (iv none)]) ∧ Below w.heap.size w w' := by
  have h2 : 2 < s.size := by omega
  rw [tx_at h2] at hn
  have hn' : (48 : Int) < ((s[2]'h2).toNat : Int) := by omega
  have hne : ((s.size : Int) != 64) = false := by simp; omega
  have hlt := (s[2]'h2).toNat_lt
  clear h64
  go_enter Try.func17, Try.ntmps17
  go_wp2
  refine bodyPost_ret (v := .tuple #[gv none, .bool (iv none)]) ?_ rfl ⟨rfl, ?_⟩
  · simp [results, Try.results17, go_sem, gv, iv]
  · first
    | exact (Below.refl _ _).alloc (Nat.le_refl _) _
    | exact (((Below.refl _ _).alloc (Nat.le_refl _) _).setCell (by simp) _).setCell (by simp) _

set_option maxHeartbeats 2000000 in
set_option maxRecDepth 100000 in
theorem refDecode_core (w : World) (s : ByteArray) (h64 : s.size = 64) (n x0 x1 : Nat) (h0 : 0 < s.size) (h1 : 1 < s.size) (h2 : 2 < s.size) (hn : (s[2]'h2).toNat = n) (hx0 : (s[0]'h0).toNat = x0) (hx1 : (s[1]'h1).toNat = x1) (hn48 : n ≤ 48) :
    Calls Try.prog 17 #[.string s] w fun r w' => r = .returned (.tuple #[gv (dec (Crc.tx s)), .bool (iv (dec (Crc.tx s)))]) ∧ Below w.heap.size w w' := by
  have HX := Lib.hid (owned w ⟨#[]⟩ 0 28)
  have HB := Lib.hid ((Below.refl w.heap.size w).alloc (Nat.le_refl _) (.cells #[.string ⟨#[]⟩, .int .i64 0] 28))
  have hb0 : x0 < 256 := by rw [← hx0]; exact (s[0]'h0).toNat_lt
  have hb1 : x1 < 256 := by rw [← hx1]; exact (s[1]'h1).toNat_lt
  have hne : ((s.size : Int) != 64) = false := by simp; omega
  have hno : ¬ (48 : Int) < (n : Int) := by omega
  have hs4 : 4 + n ≤ s.size := by omega
  have HNA := Lib.hid (show Crc.tx (s.extract 4 (4 + n)) = name (Crc.tx s) by
    rw [tx_extract]
    unfold name
    rw [show (Crc.tx s)[2]?.getD 0 = n from (tx_at h2).trans hn, show 4 + n - 4 = n by omega])
  obtain ⟨k, hk⟩ : ∃ k, k = x0 + 256 * x1 := ⟨_, rfl⟩
  have HK := Lib.hid (show num (Crc.tx s) = k by
    rw [hk]
    unfold num
    rw [show (Crc.tx s)[0]?.getD 0 = x0 from (tx_at h0).trans hx0, show (Crc.tx s)[1]?.getD 0 = x1 from (tx_at h1).trans hx1])
  have HL := Lib.hid (show (Crc.tx s).length = 64 by rw [Crc.tx_len, h64])
  have HN := Lib.hid (show (Crc.tx s)[2]?.getD 0 = n from (tx_at h2).trans hn)
  have hs0 : IntKind.wrap .i64 (x0 : Int) = (x0 : Int) := by rw [IntKind.wrap_i64]; omega
  have hs1 : IntKind.wrap .i64 (x1 : Int) = (x1 : Int) := by rw [IntKind.wrap_i64]; omega
  have hs2 : IntKind.wrap .i64 (n : Int) = (n : Int) := by rw [IntKind.wrap_i64]; omega
  have hs3 : IntKind.wrap .i64 (256 * (x1 : Int)) = 256 * (x1 : Int) := by rw [IntKind.wrap_i64]; omega
  have hs5 : IntKind.wrap .i64 ((x0 : Int) + 256 * (x1 : Int)) = (k : Int) := by rw [IntKind.wrap_i64]; omega
  have hs6 : IntKind.wrap .i64 (4 + (n : Int)) = 4 + (n : Int) := by rw [IntKind.wrap_i64]; omega
  have hs7 : (4 + (n : Int)).toNat = 4 + n := by omega
  have hs8 : 4 + (n : Int) ≤ (s.size : Int) := by omega
  have hs9 : 0 ≤ 4 + (n : Int) := by omega
  have hs10 : 4 ≤ 4 + (n : Int) := by omega
  clear h64 hk
  go_enter Try.func17, Try.ntmps17
  go_wp2
  generalize w.alloc (.cells #[.string ⟨#[]⟩, .int .i64 0] 28) = w1 at *
  go_region
  have HKK := Lib.hid (show dec (Crc.tx s) = if may (name (Crc.tx s)) (k : Int) = true ∧ Crc.tx s = enc (name (Crc.tx s)) k then some (name (Crc.tx s), k) else none by
    unfold dec
    rw [HK.out, HN.out, HL.out]
    by_cases hc : may (name (Crc.tx s)) (k : Int) = true ∧ Crc.tx s = enc (name (Crc.tx s)) k
    · rw [if_pos hc, if_pos ⟨rfl, hn48, hc⟩]
    · rw [if_neg hc, if_neg (fun e => hc e.2.2)])
  generalize s.extract 4 (4 + n) = T at *
  have HZ := Lib.hid (show T.size ≤ 9223372036854775807 by
    have := congrArg List.length HNA.out
    rw [Crc.tx_len] at this
    unfold name at this
    rw [List.length_take] at this
    have := HN.out
    omega)
  have hba := (Below.refl w1.heap.size w1).alloc (Nat.le_refl _) (.cells #[.string T, .int .i64 (k : Int)] 28)
  have HX2 := Lib.hid (HX.out.keep hba).drew
  have HG2 := Lib.hid (boxed w1 T k 28).drew
  have HB2 := Lib.hid (HB.out.trans (hba.mono HB.out.size)).drew
  clear hba hs0 hs1 hs2 hs3 hs5 hs6 hs7 hs8 hs9 hs10 HX HB
  go_wp2_with fail
  generalize (w1.alloc (.cells #[.string T, .int .i64 (k : Int)] 28)).drew = w2 at *
  generalize w1.heap.size = k1 at *
  refine (refMay_any w2 T k HZ.out).mono ?_
  rintro e w3 ⟨rfl, hb3⟩
  rw [HNA.out]
  have HX3 := Lib.hid (HX2.out.keep hb3)
  have HG3 := Lib.hid (HG2.out.keep hb3)
  have HB3 := Lib.hid (HB2.out.trans (hb3.mono HB2.out.size))
  clear hb3 HX2 HB2 HG2
  cases hmay : may (name (Crc.tx s)) (k : Int) with
  | false =>
    have HNO := Lib.hid (show dec (Crc.tx s) = none by
      rw [HKK.out, hmay]
      exact if_neg (fun e => by simp at e))
    have hc0 := HX3.out.box.c0
    have hc1 := HX3.out.box.c1
    have hf0 := HX3.out.f 0
    have hf1 := HX3.out.f 1
    clear hmay
    go_wp2
    rw [HNO.out]
    refine bodyPost_ret (v := .tuple #[gv none, .bool (iv none)]) ?_ rfl ⟨rfl, ?_⟩
    · simp [results, Try.results17, go_sem, gv, iv, hc0, hc1]
    · exact (HB3.out.setCell (Nat.le_refl _) _).setCell (Nat.le_refl _) _
  | true =>
    have hg0 := HG3.out.c0
    have hg1 := HG3.out.c1
    have HM := Lib.hid hmay
    clear hmay
    go_wp2_with fail
    refine (refEncode_any w3 T k (by rw [HNA.out]; exact HM.out)).mono ?_
    rintro e w4 ⟨rfl, hb4⟩
    rw [HNA.out]
    have HX4 := Lib.hid (HX3.out.keep hb4)
    have HG4 := Lib.hid (HG3.out.keep hb4)
    have HB4 := Lib.hid (HB3.out.trans (hb4.mono HB3.out.size))
    clear hb4 HX3 HB3 HG3 hg0 hg1
    have hc0 := HX4.out.box.c0
    have hc1 := HX4.out.box.c1
    have hf0 := HX4.out.f 0
    have hf1 := HX4.out.f 1
    have hg0 := HG4.out.c0
    have hg1 := HG4.out.c1
    have hyt : Crc.Byt (enc (name (Crc.tx s)) k) := enc_byt (by rw [← HNA.out]; exact Crc.tx_byt T) (may_len HM.out) k
    have HYT := Lib.hid (Crc.tx_str hyt)
    clear hyt
    by_cases hls : Crc.tx s = enc (name (Crc.tx s)) k
    · have HNO := Lib.hid (show dec (Crc.tx s) = some (name (Crc.tx s), k) by rw [HKK.out, if_pos ⟨HM.out, hls⟩])
      have HTE := Lib.hid (show T = Crc.str (name (Crc.tx s)) by rw [← HNA.out, str_tx])
      have hbe : Crc.str (enc (name (Crc.tx s)) k) = s := by rw [← hls, str_tx]
      rw [hbe]
      clear hls hbe
      go_wp2
      rw [HNO.out]
      refine bodyPost_ret (v := .tuple #[gv (some (name (Crc.tx s), k)), .bool (iv (some (name (Crc.tx s), k)))]) ?_ rfl ⟨rfl, ?_⟩
      · simp [results, Try.results17, go_sem, gv, iv, hc0, hc1, HTE.out]
      · exact (HB4.out.setCell (Nat.le_refl _) _).setCell (Nat.le_refl _) _
    · have HNO := Lib.hid (show dec (Crc.tx s) = none by rw [HKK.out, if_neg (fun e => hls e.2)])
      have hne' : ¬ (Crc.str (enc (name (Crc.tx s)) k)).toList = s.toList := fun e => hls (by
        have h3 := HYT.out
        rw [tx_toList, e, ← tx_toList] at h3
        exact h3)
      have hbe : ((Crc.str (enc (name (Crc.tx s)) k)).toList != s.toList) = true := by simpa using hne'
      have hbf : ((Crc.str (enc (name (Crc.tx s)) k)).toList == s.toList) = false := by simpa using hne'
      clear hls
      generalize Crc.str (enc (name (Crc.tx s)) k) = E at *
      go_wp2
      rw [HNO.out]
      refine bodyPost_ret (v := .tuple #[gv none, .bool (iv none)]) ?_ rfl ⟨rfl, ?_⟩
      · simp [results, Try.results17, go_sem, gv, iv, hc0, hc1]
      · exact (HB4.out.setCell (Nat.le_refl _) _).setCell (Nat.le_refl _) _

theorem refDecode_any (w : World) (s : ByteArray) :
    Calls Try.prog 17 #[.string s] w fun r w' => r = .returned (.tuple #[gv (dec (Crc.tx s)), .bool (iv (dec (Crc.tx s)))]) ∧ Below w.heap.size w w' := by
  by_cases h64 : s.size = 64
  · by_cases h48 : at' (Crc.tx s) 2 ≤ 48
    · have h2 : 2 < s.size := by omega
      rw [tx_at h2] at h48
      exact refDecode_core w s h64 _ _ _ (by omega) (by omega) h2 rfl rfl rfl h48
    · rw [dec_name h48]
      exact refDecode_name w s h64 h48
  · rw [dec_len (by rw [Crc.tx_len]; exact h64)]
    exact refDecode_len w s h64
end Ent
end Go.Proofs.Ytdgbpnchkgdmmaa
