/- A directory's bytes, chunk by chunk; the document's All. -/
import Derived.Test.YtdgbpnchkgdmmaaEntRows
namespace Go.Proofs.Ytdgbpnchkgdmmaa
open Go.RowKit Go.MapKept
namespace Ent

/-- the i-th chunk -/
def chk (b : List Nat) (i : Nat) : List Nat := (b.drop (64 * i)).take 64
/-- as entries -/
def ens (l : List (List Nat × Nat)) : List En := l.map fun p => (Crc.str p.1, (p.2 : Int))
/-- these are what the first chunks are decoded to -/
def Decs (b : List Nat) (ds : List (List Nat × Nat)) : Prop := ∀ i (h : i < ds.length), dec (chk b i) = some ds[i]
/-- a directory's -/
def All (b : List Nat) (l : List (List Nat × Nat)) : Prop := b.length = 64 * l.length ∧ Decs b l ∧ (nms (ens l)).Nodup

theorem ens_len (l : List (List Nat × Nat)) : (ens l).length = l.length := by
  unfold ens
  rw [List.length_map]
theorem ens_snoc (l : List (List Nat × Nat)) (p : List Nat × Nat) : ens (l ++ [p]) = ens l ++ [(Crc.str p.1, (p.2 : Int))] := by
  unfold ens
  rw [List.map_append]
  rfl
theorem Decs.nil (b : List Nat) : Decs b [] := fun i h => absurd h (by simp)
theorem Decs.snoc {b : List Nat} {ds : List (List Nat × Nat)} {p : List Nat × Nat} (h : Decs b ds) (hp : dec (chk b ds.length) = some p) : Decs b (ds ++ [p]) := by
  intro i hi
  rw [List.length_append, List.length_singleton] at hi
  rcases Nat.lt_or_ge i ds.length with h1 | h1
  · rw [List.getElem_append_left h1]
    exact h i h1
  · obtain rfl : i = ds.length := by omega
    rw [hp, List.getElem_append_right (Nat.le_refl _)]
    simp
theorem Decs.size {b : List Nat} {ds : List (List Nat × Nat)} (h : Decs b ds) : ∀ e ∈ ens ds, e.1.size ≤ 9223372036854775807 := by
  intro e he
  obtain ⟨p, hp, rfl⟩ := List.mem_map.1 he
  obtain ⟨i, hi, rfl⟩ := List.getElem_of_mem hp
  have := (dec_some (h i hi)).1
  have h48 := may_len this
  rw [Crc.str_size]
  exact Nat.le_trans h48 (by decide)
theorem Decs.unique {b : List Nat} {ds es : List (List Nat × Nat)} (h : Decs b ds) (k : Decs b es) (e : ds.length = es.length) : ds = es := by
  refine List.ext_getElem e (fun i h1 h2 => ?_)
  have a := h i h1
  rw [k i h2] at a
  injection a with a
  exact a.symm
theorem All.unique {b : List Nat} {l m : List (List Nat × Nat)} (h : All b l) (k : All b m) : l = m := h.2.1.unique k.2.1 (by have := h.1; have := k.1; omega)

open Classical in
/-- whose directory's they are -/
noncomputable def alls (b : List Nat) : Option (List (List Nat × Nat)) := if h : ∃ l, All b l then some (Classical.choose h) else none
theorem alls_some {b : List Nat} {l : List (List Nat × Nat)} (h : All b l) : alls b = some l := by
  have hx : ∃ l, All b l := ⟨l, h⟩
  unfold alls
  rw [dif_pos hx, (Classical.choose_spec hx).unique h]
theorem alls_none {b : List Nat} (h : ∀ l, ¬ All b l) : alls b = none := by
  unfold alls
  rw [dif_neg (fun ⟨l, hl⟩ => h l hl)]
theorem alls_is {b : List Nat} {l : List (List Nat × Nat)} (h : alls b = some l) : All b l := by
  unfold alls at h
  split at h
  · rename_i hx
    injection h with h
    rw [← h]
    exact Classical.choose_spec hx
  · cases h

/-- a bad chunk -/
theorem none_chunk {b : List Nat} {m : Nat} (hm : 64 * m + 64 ≤ b.length) (h : dec (chk b m) = none) : alls b = none :=
  alls_none (fun l hl => by
    have h1 := hl.1
    have h2 := hl.2.1 m (by omega)
    rw [h] at h2
    cases h2)
theorem none_len {b : List Nat} (h : b.length % 64 ≠ 0) : alls b = none :=
  alls_none (fun l hl => by
    have h1 := hl.1
    omega)
theorem none_twice {b : List Nat} {ds : List (List Nat × Nat)} (hd : Decs b ds) (hl : b.length = 64 * ds.length) (h : ¬ (nms (ens ds)).Nodup) : alls b = none :=
  alls_none (fun l hk => by
    have := hk.2.1.unique hd (by have := hk.1; omega)
    rw [this] at hk
    exact h hk.2.2)

/-- what the document's All leaves -/
def RefTo (w : World) (b : List Nat) (r : Ending) (w' : World) : Prop :=
  match alls b with
  | none => r = .returned (.tuple #[.slice none 0 0, .bool false]) ∧ Below w.heap.size w w'
  | some l => ∃ (G : Option Addr) (gc : Nat), r = .returned (.tuple #[.slice G l.length gc, .bool true]) ∧ Es w' G (ens l) ∧ Below w.heap.size w w'
theorem RefTo.none {w w' : World} {b : List Nat} {r : Ending} (h : alls b = Option.none) (hr : r = .returned (.tuple #[.slice Option.none 0 0, .bool false])) (hb : Below w.heap.size w w') : RefTo w b r w' := by
  unfold RefTo
  rw [h]
  exact ⟨hr, hb⟩
theorem RefTo.some {w w' : World} {b : List Nat} {l : List (List Nat × Nat)} {r : Ending} {G : Option Addr} {gc : Nat} (h : alls b = Option.some l) (hr : r = .returned (.tuple #[.slice G l.length gc, .bool true])) (he : Es w' G (ens l)) (hb : Below w.heap.size w w') : RefTo w b r w' := by
  unfold RefTo
  rw [h]
  exact ⟨G, gc, hr, he, hb⟩

set_option maxHeartbeats 2000000 in
set_option maxRecDepth 100000 in
theorem refAll_any (w : World) (s : ByteArray) (hs : s.size ≤ 2000) :
    Calls Try.prog 19 #[.string s] w (RefTo w (Crc.tx s)) := by
  have HRD := Lib.hid refDecode_any
  have HBL := Lib.hid (Crc.tx_len s)
  obtain ⟨i0, hi0, hz0, hz1, hz2⟩ := info_parts ref_info
  go_enter Try.func19, Try.ntmps19
  go_wp2
  go_loopw [0, 4] (fun u v wr => ∃ (m : Nat) (S : ByteArray) (G : Option Addr) (gc : Nat) (ds : List (List Nat × Nat)), u = .string S ∧ 64 * m + S.size = s.size ∧ Crc.tx S = (Crc.tx s).drop (64 * m) ∧ v = .slice G m gc ∧ GotE 28 w wr G m gc (ens ds) ∧ ds.length = m ∧ Decs (Crc.tx s) ds) (fun u _ _ => match u with | .string S => S.size | _ => 0)
  case atStart => exact ⟨0, s, none, 0, [], rfl, by omega, by simp, rfl, ⟨⟨rfl, .inl ⟨rfl, rfl⟩⟩, Below.refl _ _⟩, rfl, Decs.nil _⟩
  case round =>
    obtain ⟨m, S, G, gc, ds, rfl, hS, hT, rfl, hgot, hdl, hdc⟩ := hrel
    have HG := Lib.hid hgot
    have HD := Lib.hid hdc
    have HL := Lib.hid hdl
    have HT := Lib.hid hT
    have HS := Lib.hid hS
    have hS2 : S.size ≤ 2000 := by omega
    have hm2 : m ≤ 100 := by omega
    clear hgot hdc hdl hT hS
    by_cases hlt : 64 ≤ S.size
    · have HCH := Lib.hid (show Crc.tx (S.extract 0 64) = chk (Crc.tx s) m by rw [tx_extract, List.drop_zero, HT.out]; rfl)
      have hrd := fun w => HRD.out w (S.extract 0 64)
      rw [HCH.out] at hrd
      have HR := Lib.hid hrd
      clear hrd
      cases hd : dec (chk (Crc.tx s) m) with
      | none =>
        have HNO := Lib.hid (none_chunk (b := Crc.tx s) (m := m) (by have := HBL.out; have := HS.out; omega) hd)
        rw [hd] at HR
        simp only [gv, iv] at HR
        clear hd
        go_wp2_with fail
        refine (HR.out _).mono ?_
        rintro e w2 ⟨rfl, hb2⟩
        have HB2 := Lib.hid (HG.out.2.trans (hb2.mono HG.out.2.size))
        clear hb2
        go_wp2
        go_ret2
        exact RefTo.none HNO.out rfl (HB2.out.alloc HB2.out.size _)
      | some p =>
        obtain ⟨nm, k⟩ := p
        have HDN := Lib.hid (HD.out.snoc (p := (nm, k)) (by rw [HL.out]; exact hd))
        rw [hd] at HR
        simp only [gv, iv] at HR
        clear hd
        have HE := Lib.hid (ens_snoc ds (nm, k))
        generalize Crc.str nm = T at *
        go_wp2_with fail
        refine (HR.out _).mono ?_
        rintro e w2 ⟨rfl, hb2⟩
        have HOWN := Lib.hid (((own_keep HG.out.1 hb2).alloc (.cells #[.string T, .int .i64 (k : Int)] 28)).alloc (.cells #[.string T, .int .i64 (k : Int)] 28))
        have hb3 := HG.out.2.trans (hb2.mono HG.out.2.size)
        have HB2 := Lib.hid ((hb3.alloc hb3.size (.cells #[.string T, .int .i64 (k : Int)] 28)).alloc (by have := hb3.size; simp; omega) (.cells #[.string T, .int .i64 (k : Int)] 28))
        have HCT := Lib.hid (cells_two_new (w2.alloc (.cells #[.string T, .int .i64 (k : Int)] 28)) (.string T) (.int .i64 (k : Int)) 28)
        rw [World.size_alloc] at HCT
        have HX := Lib.hid (show Crc.tx (S.extract 64 S.size) = (Crc.tx s).drop (64 * (m + 1)) by
          rw [tx_extract, HT.out, List.drop_drop, List.take_of_length_le]
          · congr 1
          · rw [List.length_drop, HBL.out]
            have := HS.out
            omega)
        have HXS := Lib.hid (show (S.extract 64 S.size).size = S.size - 64 by rw [ByteArray.size_extract]; omega)
        clear hb2 hb3
        go_wp2_with (at_builtin; refine wpList_append_own_at _ rfl (.tmp 18) (.tmp 20) 43 rfl w.heap.size 28 i0 (.agg #[.string ⟨#[]⟩, .int .i64 0]) 2 24 Try.underlying43 hi0 hz0 hz1 hz2 rfl (by decide) (.slice G m gc) m (ecells (ens ds)) rfl HOWN.out ⟨w2.heap.size + 1, 0, none⟩ 1 1 [.string T, .int .i64 (k : Int)] rfl rfl HCT.out (by simp [Value.oneCell']) (by unfold maxLen; omega) (by omega) (by have := HB2.out.size; omega) ?_
                     intro v' w3 hown3 hgr3 _ _
                     obtain ⟨G', gc', rfl⟩ := row_slice2 hown3
                     have HO3 := Lib.hid hown3
                     have HG3 := Lib.hid hgr3
                     clear hown3 hgr3)
        refine ⟨⟨m + 1, _, G', gc', ds ++ [(nm, k)], rfl, ?_, HX.out, rfl, ⟨?_, ?_⟩, ?_, HDN.out⟩, ?_⟩
        · rw [HXS.out]
          have := HS.out
          omega
        · rw [HE.out, ecells_snoc]
          exact HO3.out
        · exact HB2.out.grown HG3.out HB2.out.size (fun k hk => row_base_lt2 HG.out.1 hk)
        · rw [List.length_append, HL.out]
          rfl
        · simp only [HXS.out]
          omega
    · by_cases h0 : S.size = 0
      · have hsn : s.size = 64 * m := by have := HS.out; omega
        have hlen : (Crc.tx s).length = 64 * ds.length := by rw [HBL.out, HL.out, hsn]
        have hnil : S.toList = [] := tx_eq.2 (List.length_eq_zero_iff.1 (by rw [Crc.tx_len]; exact h0))
        have HES := Lib.hid (own_es HG.out.1 HD.out.size (by omega))
        have HLE := Lib.hid hlen
        have HTW := Lib.hid (refTwice_any _ G gc m (ens ds) HES.out (by rw [ens_len, HL.out]))
        clear hsn hlen
        go_wp2_with fail
        refine HTW.out.mono ?_
        rintro e w2 ⟨rfl, hb2⟩
        have HB2 := Lib.hid (HG.out.2.trans (hb2.mono HG.out.2.size))
        have HE2 := Lib.hid (HES.out.keep hb2)
        clear hb2 HTW
        by_cases hnd : (nms (ens ds)).Nodup
        · rw [twice_no hnd]
          have HOK := Lib.hid (alls_some ⟨HLE.out, HD.out, hnd⟩)
          clear hnd
          go_wp2
          go_ret2
          exact RefTo.some HOK.out (by rw [HL.out]; rfl) HE2.out HB2.out
        · rw [twice_yes hnd]
          have HNO := Lib.hid (none_twice HD.out HLE.out hnd)
          clear hnd
          go_wp2
          go_ret2
          exact RefTo.none HNO.out rfl HB2.out
      · have HNO := Lib.hid (none_len (b := Crc.tx s) (by have := HBL.out; have := HS.out; omega))
        have hnn : ¬ S.toList = [] := fun e => h0 (by
          have h1 := tx_eq.1 e
          have h2 := Crc.tx_len S
          rw [h1] at h2
          exact h2.symm)
        have hnb : (S.toList == []) = false := by simpa using hnn
        have HB := Lib.hid HG.out.2
        clear h0
        go_wp2
        go_ret2
        exact RefTo.none HNO.out rfl HB.out
end Ent
end Go.Proofs.Ytdgbpnchkgdmmaa
