/- EntryDecodes, walked. -/
import Derived.Test.YtdgbpnchkgdmmaaEntLives
import Derived.Laws.OwnMore
import Derived.OneCell
import Derived.ArgAppend
namespace Go.Proofs.Ytdgbpnchkgdmmaa
open Go.RowKit Go.MapKept
namespace Ent

theorem bts_news {W : World} {ad : Addr} {l : List Nat} (h : Crc.Bts W (some ad) l) : ∀ j u, (Crc.u8s l)[j]? = some u → W.cell? (ad.add j) = some u := by
  intro j u hu
  have hj : j < l.length := by
    have := (List.getElem?_eq_some_iff.1 hu).1
    simpa [Crc.u8s] using this
  obtain ⟨b, o, e, _, hc⟩ := h.at' j hj
  injection e with e
  subst e
  rw [Go.WideShapes.add_plain, hc, ← hu]
  simp [Crc.u8s, List.getElem?_eq_getElem hj]
theorem row_cap {W : World} {B n c : Nat} {e : TypeId} {s : Nat} {G : Option Addr} {xs : List Value} (h : W.ownsRow B e s (.slice G n c) n xs) : n ≤ c := by
  rcases h.2 with ⟨e, h0⟩ | ⟨g, cap, cur, e, _, _, hc, _⟩
  · omega
  · injection e with _ _ e
    omega

/-- a copy of bytes -/
theorem copy_row {W : World} {A : Option Addr} {l : List Nat} (c : Nat) (h : Crc.Bts W A l) (hA : A = none → c = 0) (hl : l.length ≤ 1000000) :
    ∃ (G : Option Addr) (gc : Nat) (w' : World), (Builtin.append_ #[29, 29] 29 #[.slice (some ⟨W.heap.size, 0, none⟩) 0 0, .slice A l.length c]).run Try.prog (W.alloc (.cells #[] 5)) = .ok (.slice G l.length gc) w' ∧ l.length ≤ gc ∧ Crc.Bts w' G l ∧ Below W.heap.size W w' := by
  obtain ⟨i0, hi0, hz0, hz1, hz2⟩ := info_parts Crc.u8_info
  have hown : (W.alloc (.cells #[] 5)).ownsRow W.heap.size 5 1 (.slice (some ⟨W.heap.size, 0, none⟩) 0 0) 0 [] := World.ownsRow_made W #[] 0 (Nat.le_refl _) (by unfold maxLen; omega) rfl
  have hb := (Below.refl W.heap.size W).alloc (Nat.le_refl _) (.cells #[] 5)
  cases A with
  | none =>
    have hl0 : l = [] := by
      cases l with
      | nil => rfl
      | cons b l =>
        obtain ⟨_, _, e, _⟩ := h.at' 0 (by simp)
        cases e
    subst hl0
    rw [hA rfl]
    exact ⟨_, _, _, run_append_owned_none (P := Try.prog) _ W.heap.size 29 29 5 i0 1 Try.underlying29 hi0 _ 0 [] hown, by simp, ⟨fun _ h => by simp at h, by simp, fun j h => by simp at h⟩, hb⟩
  | some ad =>
    obtain ⟨v', w', hr, h2, h3, _, _⟩ := run_append_own_at (P := Try.prog) (W.alloc (.cells #[] 5)) W.heap.size 29 29 5 i0 (.int .u8 0) 1 1 Try.underlying29 hi0 hz0 hz1 hz2 rfl (by decide) _ 0 [] hown ad l.length c (Crc.u8s l) (by simp [Crc.u8s]) (bts_news (h.alloc _)) (Crc.u8s_one l) (by unfold maxLen; omega) (by omega) (by simp)
    rw [Nat.zero_add, List.nil_append] at h2
    obtain ⟨G, gc, rfl⟩ := Crc.row_slice h2
    exact ⟨G, gc, w', hr, row_cap h2, Crc.own_bts h2 h.byt (by omega), hb.grown h3 (by simp) (fun k hk => Crc.row_base_lt hown hk)⟩

/-- an append whose run is known -/
theorem wpList_append_run {P : Program} {w w' : World} {ops : Array Oper} {rest : List Oper} {o : Oper} {a : Act} {Q : Exit → Act → World → Prop} (hgd : o.guard = none) (s x : Operand) (t : TypeId)
    (ho : o.op = .call { callee := .builtin .append, args := #[s, x], argTypes := #[t, t] }) (v u v' : Value) (hs : a.eval s = v) (hx : a.eval x = u) (hr : (Builtin.append_ #[t, t] o.type #[v, u]).run P w = .ok v' w')
    (h : wpList P ops Q rest (a.put o.dst v') w') : wpList P ops Q (o :: rest) a w := by
  refine wpList_plain hgd fun K hK => ?_
  unfold Oper.wp execOp
  simp only [ho, resolve, invoke, builtin, Sem.run_bind, Sem.run_pure, Result.andThen_ok, List.map_toArray, List.map_cons, List.map_nil, hs, hx, hr]
  exact hK _ _ h

section
variable {w : World}
set_option maxHeartbeats 1000000 in
theorem decodes_long (A : Option Addr) (c n : Nat) (hn : n ≤ 9223372036854775807) (h200 : ¬ n ≤ 200) :
    Calls Try.prog 4 #[.slice A n c] w fun r w' => r = .returned (.bool true) ∧ Below w.heap.size w w' := by
  have HL := Lib.hid lives_any
  go_enter Try.func4, Try.ntmps4
  go_wp2_with fail
  refine (HL.out _).mono ?_
  rintro e w1 ⟨rfl, hb⟩
  have HB := Lib.hid hb
  clear hb
  go_wp2_with fail
  refine (HL.out _).mono ?_
  rintro e w2 ⟨rfl, hb⟩
  have HB2 := Lib.hid (HB.out.trans (hb.mono HB.out.size))
  clear hb
  go_wp2
  go_ret
  exact ⟨rfl, HB2.out⟩

set_option maxHeartbeats 2000000 in
set_option maxRecDepth 100000 in
theorem decodes_any (A : Option Addr) (c : Nat) (l : List Nat) (h : Crc.Bts w A l) (hA : A = none → c = 0) :
    Calls Try.prog 4 #[.slice A l.length c] w fun r w' => r = .returned (.bool true) ∧ Below w.heap.size w w' := by
  by_cases h200 : l.length ≤ 200
  case neg => exact decodes_long A c l.length h.len h200
  have HL := Lib.hid lives_any
  have H := Lib.hid h
  have HA := Lib.hid hA
  clear h hA
  go_enter Try.func4, Try.ntmps4
  go_wp2_with fail
  refine (HL.out _).mono ?_
  rintro e w1 ⟨rfl, hb⟩
  have H1 := Lib.hid (H.out.keep hb)
  have HB1 := Lib.hid hb
  clear hb H
  obtain ⟨O, oc, w2, hap, hoc, ho2, hb2⟩ := copy_row c H1.out HA.out (by omega)
  have H2 := Lib.hid (H1.out.keep hb2)
  have O2 := Lib.hid ho2
  have HB2 := Lib.hid (HB1.out.trans (hb2.mono HB1.out.size))
  have HAP := Lib.hid hap
  clear ho2 hb2 H1 HB1 hap
  go_wp2_with (at_builtin; refine wpList_append_run rfl (.tmp 16) (.tmp 17) 29 rfl _ _ _ rfl rfl HAP.out ?_)
  refine (decode_any w2 O oc l.length l O2.out rfl hoc).mono ?_
  rintro e w3 ⟨rfl, hb3⟩
  have H3 := Lib.hid (H2.out.keep hb3)
  have O3 := Lib.hid (O2.out.keep hb3)
  have HB3 := Lib.hid (HB2.out.trans (hb3.mono HB2.out.size))
  clear hb3 H2 O2 HB2 HAP
  have HTX := Lib.hid (Crc.tx_str H3.out.byt)
  cases hd : dec l with
  | none =>
    have hba := (Below.refl w3.heap.size w3).alloc (Nat.le_refl _) (.cells #[.string ⟨#[]⟩, .int .i64 0] 23)
    have H4 := Lib.hid (H3.out.keep hba)
    have O4 := Lib.hid (O3.out.keep hba)
    have HB4 := Lib.hid (HB3.out.trans (hba.mono HB3.out.size))
    have HX4 := Lib.hid (boxed w3 ⟨#[]⟩ 0 23)
    have hcv := Crc.conv_str c H4.out
    have HRD := Lib.hid (fun w => refDecode_any w (Crc.str l))
    rw [HTX.out, hd] at HRD
    clear hba H3 O3 HB3 hd
    simp only [gv, ev, iv] at HRD ⊢
    generalize Crc.str l = E at *
    go_wp2_with fail
    refine (HRD.out _).mono ?_
    rintro e w5 ⟨rfl, hb5⟩
    have H5 := Lib.hid (H4.out.keep hb5)
    have O5 := Lib.hid (O4.out.keep hb5)
    have HB5 := Lib.hid (HB4.out.trans (hb5.mono HB4.out.size))
    have HX5 := Lib.hid (HX4.out.keep hb5)
    clear hb5 H4 O4 HB4 HX4 hcv
    have hba := (Below.refl w5.heap.size w5).alloc (Nat.le_refl _) (.cells #[.string ⟨#[]⟩, .int .i64 0] 28)
    have H6 := Lib.hid (H5.out.keep hba)
    have O6 := Lib.hid (O5.out.keep hba)
    have HB6 := Lib.hid (HB5.out.trans (hba.mono HB5.out.size))
    have HX6 := Lib.hid (HX5.out.keep hba)
    have hcv1 := Crc.conv_str c H6.out
    have hcv2 := Crc.conv_str oc O6.out
    have hc0 := HX6.out.c0
    have hc1 := HX6.out.c1
    clear hba H5 O5 HB5 HX5
    go_wp2
    go_ret
    exact ⟨rfl, HB6.out⟩
  | some q =>
    obtain ⟨nm, k⟩ := q
    have hba := (Below.refl w3.heap.size w3).alloc (Nat.le_refl _) (.cells #[.string (Crc.str nm), .int .i64 (k : Int)] 23)
    have H4 := Lib.hid (H3.out.keep hba)
    have O4 := Lib.hid (O3.out.keep hba)
    have HB4 := Lib.hid (HB3.out.trans (hba.mono HB3.out.size))
    have HX4 := Lib.hid (boxed w3 (Crc.str nm) k 23)
    have hcv := Crc.conv_str c H4.out
    have HRD := Lib.hid (fun w => refDecode_any w (Crc.str l))
    rw [HTX.out, hd] at HRD
    clear hba H3 O3 HB3 hd
    simp only [gv, ev, iv] at HRD ⊢
    generalize Crc.str l = E at *
    generalize Crc.str nm = T at *
    go_wp2_with fail
    refine (HRD.out _).mono ?_
    rintro e w5 ⟨rfl, hb5⟩
    have H5 := Lib.hid (H4.out.keep hb5)
    have O5 := Lib.hid (O4.out.keep hb5)
    have HB5 := Lib.hid (HB4.out.trans (hb5.mono HB4.out.size))
    have HX5 := Lib.hid (HX4.out.keep hb5)
    clear hb5 H4 O4 HB4 HX4 hcv
    have hba := (Below.refl w5.heap.size w5).alloc (Nat.le_refl _) (.cells #[.string T, .int .i64 (k : Int)] 28)
    have H6 := Lib.hid (H5.out.keep hba)
    have O6 := Lib.hid (O5.out.keep hba)
    have HB6 := Lib.hid (HB5.out.trans (hba.mono HB5.out.size))
    have HX6 := Lib.hid (HX5.out.keep hba)
    have hcv1 := Crc.conv_str c H6.out
    have hcv2 := Crc.conv_str oc O6.out
    have hc0 := HX6.out.c0
    have hc1 := HX6.out.c1
    clear hba H5 O5 HB5 HX5
    go_wp2
    go_ret
    exact ⟨rfl, HB6.out⟩
end
end Ent
end Go.Proofs.Ytdgbpnchkgdmmaa
