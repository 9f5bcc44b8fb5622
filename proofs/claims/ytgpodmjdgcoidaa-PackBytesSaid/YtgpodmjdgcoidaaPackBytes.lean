/- PackBytes, walked. -/
import Derived.Test.YtgpodmjdgcoidaaPackRefWords
import Derived.Laws.Slices
import Derived.Laws.OwnMore
import Derived.Deep.RegionHeld3
import Derived.BigCall
import Derived.Lib.SliceRun
namespace Go.Proofs.Ytgpodmjdgcoidaa
open Go.RowKit Go.MapKept
namespace Pack

theorem bts_news {W : World} {ad : Addr} {l : List Nat} (h : Bts W (some ad) l) : ∀ j u, (u8s l)[j]? = some u → W.cell? (ad.add j) = some u := by
  intro j u hu
  have hj : j < l.length := by
    have := (List.getElem?_eq_some_iff.1 hu).1
    simpa [u8s] using this
  obtain ⟨b, o, e, _, hc⟩ := h.at' j hj
  injection e with e
  subst e
  rw [Go.WideShapes.add_plain, hc, ← hu]
  simp [u8s, List.getElem?_eq_getElem hj]

/-- a copy of bytes -/
theorem copy_row {W : World} {A : Option Addr} {l : List Nat} (c : Nat) (h : Bts W A l) (hA : A = none → c = 0) (hl : l.length ≤ 1000000) :
    ∃ (G : Option Addr) (gc : Nat) (w' : World), (Builtin.append_ #[38, 38] 38 #[.slice (some ⟨W.heap.size, 0, none⟩) 0 0, .slice A l.length c]).run Try.prog (W.alloc (.cells #[] 5)) = .ok (.slice G l.length gc) w' ∧ Bts w' G l ∧ Below W.heap.size W w' := by
  obtain ⟨i0, hi0, hz0, hz1, hz2⟩ := info_parts u8_info
  have hown : (W.alloc (.cells #[] 5)).ownsRow W.heap.size 5 1 (.slice (some ⟨W.heap.size, 0, none⟩) 0 0) 0 [] := World.ownsRow_made W #[] 0 (Nat.le_refl _) (by unfold maxLen; omega) rfl
  have hb := (Below.refl W.heap.size W).alloc (Nat.le_refl _) (.cells #[] 5)
  cases A with
  | none =>
    have hl0 : l = [] := by
      cases l with
      | nil => rfl
      | cons b l =>
        obtain ⟨_, _, e, _⟩ := h.at' 0 (by simp)
        cases e
    subst hl0
    rw [hA rfl]
    exact ⟨_, _, _, run_append_owned_none (P := Try.prog) _ W.heap.size 38 38 5 i0 1 Try.underlying38 hi0 _ 0 [] hown, ⟨fun _ h => by simp at h, by simp, fun j h => by simp at h⟩, hb⟩
  | some ad =>
    obtain ⟨v', w', hr, h2, h3, _, _⟩ := run_append_own_at (P := Try.prog) (W.alloc (.cells #[] 5)) W.heap.size 38 38 5 i0 (.int .u8 0) 1 1 Try.underlying38 hi0 hz0 hz1 hz2 rfl (by decide) _ 0 [] hown ad l.length c (u8s l) (by simp [u8s]) (bts_news (h.alloc _)) (u8s_one l) (by unfold maxLen; omega) (by omega) (by simp)
    rw [Nat.zero_add, List.nil_append] at h2
    obtain ⟨G, gc, rfl⟩ := row_slice h2
    exact ⟨G, gc, w', hr, own_bts h2 h.byt (by omega), hb.grown h3 (by simp) (fun k hk => row_base_lt hown hk)⟩

/-- an append whose run is known -/
theorem wpList_append_run {P : Program} {w w' : World} {ops : Array Oper} {rest : List Oper} {o : Oper} {a : Act} {Q : Exit → Act → World → Prop} (hgd : o.guard = none) (s x : Operand) (t : TypeId)
    (ho : o.op = .call { callee := .builtin .append, args := #[s, x], argTypes := #[t, t] }) (v u v' : Value) (hs : a.eval s = v) (hx : a.eval x = u) (hr : (Builtin.append_ #[t, t] o.type #[v, u]).run P w = .ok v' w')
    (h : wpList P ops Q rest (a.put o.dst v') w') : wpList P ops Q (o :: rest) a w := by
  refine wpList_plain hgd fun K hK => ?_
  unfold Oper.wp execOp
  simp only [ho, resolve, invoke, builtin, Sem.run_bind, Sem.run_pure, Result.andThen_ok, List.map_toArray, List.map_cons, List.map_nil, hs, hx, hr]
  exact hK _ _ h

theorem Bts.drew {w : World} {A : Option Addr} {l : List Nat} (h : Bts w A l) : Bts w.drew A l := h.keep (Below.refl _ _).drew
theorem Wds.drew {w : World} {A : Option Addr} {l : List Nat} (h : Wds w A l) : Wds w.drew A l := h.keep (Below.refl _ _).drew
theorem Bts.drewN {w : World} {A : Option Addr} {l : List Nat} (h : Bts w A l) (n : Nat) : Bts (w.drewN n) A l := h.keep (below_drewN (Below.refl _ _) n)

theorem size_el (W : World) : (sizeOf (Try.prog.elem 38)).run Try.prog W = .ok 1 W := by kernel_rfl
theorem und_sl : Try.prog.underlying 38 = some (.slice (Try.prog.elem 38)) := by kernel_rfl

/-- bytes up to a place -/
theorem slice_upto (A : Option Addr) (n c q : Nat) (hq : q ≤ n) (hn : n ≤ c) : ∃ B : Option Addr, (∀ W, (Instr.slice 38 (.slice A n c) none (some (.int .i64 (q : Int))) none).run Try.prog W = .ok (.slice B q c) W) ∧ ∀ W (l : List Nat), l.length = n → Bts W A l → Bts W B (l.take q) := by
  refine ⟨if c = 0 then A else A.map (·.add (0 * 1)), fun W => ?_, fun W l hl hb => ?_⟩
  · rw [run_slice_h _ _ _ _ _ und_sl .i64 (q : Int) (by omega) (by omega), size_el]
    rfl
  · refine ⟨hb.byt.take q, by rw [List.length_take]; have := hb.len; omega, fun j hj => ?_⟩
    rw [List.length_take] at hj
    obtain ⟨b, o, rfl, h1, h2⟩ := hb.at' j (by omega)
    refine ⟨b, o, ?_, h1, ?_⟩
    · split
      · rfl
      · rw [Option.map_some, Go.WideShapes.add_plain]
        rfl
    · rw [List.getElem_take]
      exact h2

/-- bytes from a place on -/
theorem slice_from (A : Option Addr) (n c q : Nat) (hq : q ≤ n) (hn : n ≤ c) : ∃ B : Option Addr, (∀ W, (Instr.slice 38 (.slice A n c) (some (.int .i64 (q : Int))) none none).run Try.prog W = .ok (.slice B (n - q) (c - q)) W) ∧ ∀ W (l : List Nat), l.length = n → Bts W A l → Bts W B (l.drop q) := by
  refine ⟨if c = q then A else A.map (·.add (q * 1)), fun W => ?_, fun W l hl hb => ?_⟩
  · rw [run_slice_l _ _ _ _ _ und_sl .i64 (q : Int) (by omega) (by omega), size_el]
    rfl
  · refine ⟨fun b hm => hb.byt b (List.mem_of_mem_drop hm), by rw [List.length_drop]; have := hb.len; omega, fun j hj => ?_⟩
    rw [List.length_drop] at hj
    obtain ⟨b, o, rfl, h1, h2⟩ := hb.at' (q + j) (by omega)
    refine ⟨b, o + q, ?_, h1, ?_⟩
    · rw [if_neg (by omega), Option.map_some, Go.WideShapes.add_plain, Nat.mul_one]
    · rw [List.getElem_drop, Nat.add_assoc]
      exact h2

section
variable {w : World}
set_option maxHeartbeats 800000 in
set_option maxRecDepth 100000 in
theorem packBytes_core (A B : Option Addr) (c d : Nat) (l bs : List Nat) (h : Wds w A l) (g : Bts w B bs) (hB : B = none → d = 0) (h60 : l.length ≤ 60) (h400 : bs.length ≤ 400) :
    Calls Try.prog 5 #[.slice A l.length c, .slice B bs.length d] w fun r w' => r = .returned (.bool true) ∧ Below w.heap.size w w' := by
  have H := Lib.hid h
  have G := Lib.hid g
  clear h g
  have HL := Lib.hid (fun W => lives_any W)
  go_enter Try.func5, Try.ntmps5
  go_wp2_with fail
  refine (HL.out _).mono ?_
  rintro e w1 ⟨rfl, hb⟩
  have H1 := Lib.hid (H.out.keep hb)
  have G1 := Lib.hid (G.out.keep hb)
  have HB1 := Lib.hid hb
  clear hb H G HL
  obtain ⟨O, oc, w2, hap, ho2, hb2⟩ := copy_row d G1.out hB (by omega)
  have H2 := Lib.hid (H1.out.keep hb2)
  have G2 := Lib.hid (G1.out.keep hb2)
  have O2 := Lib.hid ho2
  have HB2 := Lib.hid (HB1.out.trans (hb2.mono HB1.out.size))
  have HAP := Lib.hid hap
  clear ho2 hb2 H1 G1 HB1 hB hap
  go_wp2_with (at_builtin; refine wpList_append_run rfl (.tmp 24) (.tmp 25) 38 rfl _ _ _ rfl rfl HAP.out ?_)
  refine (bytes_any A c l H2.out (by omega)).mono ?_
  rintro e w3 ⟨T, tc, rfl, htc, ht3, hb3⟩
  have H3 := Lib.hid (H2.out.keep hb3)
  have G3 := Lib.hid (G2.out.keep hb3)
  have O3 := Lib.hid (O2.out.keep hb3)
  have HB3 := Lib.hid (HB2.out.trans (hb3.mono HB2.out.size))
  have T3 := Lib.hid ht3
  clear ht3 hb3 H2 G2 O2 HB2 HAP htc
  have hl8 : (wflat l).length = 8 * l.length := wflat_len l
  have HWW := Lib.hid (wrds_wflat H3.out.u64)
  have HL8 := Lib.hid hl8
  clear hl8
  have HCV := Lib.hid (fun (W : World) (hT : Bts W T (wflat l)) => show (convert 38 9 (.slice T (8 * l.length) tc)).run Try.prog W = .ok (.string (str (wflat l))) W by
    have := conv_str tc hT
    rwa [HL8.out] at this)
  have HWC := Lib.hid (fun (W : World) (hT : Bts W T (wflat l)) => show Calls Try.prog 15 #[.slice T (8 * l.length) tc] W fun e w' => ∃ (G : Option Addr) (gc : Nat), e = .returned (.slice G l.length gc) ∧ Wds w' G l ∧ Below W.heap.size W w' by
    have := words_any T tc (wflat l) hT (by rw [HL8.out]; omega)
    rwa [HWW.out, HL8.out] at this)
  have hcv := HCV.out _ T3.out.drew
  go_wp2_with fail
  go_region_held3 (fun W => (convert 38 9 (.slice T (8 * l.length) tc)).run Try.prog W = .ok (.string (str (wflat l))) W) (assumption) (first
    | (go_at_call 14
       with_reducible refine (refBytes_any A c l ?_ h60).mono ?_
       · repeat (first | with_reducible exact H3.out | with_reducible refine Wds.drew ?_)
       rintro e w4 ⟨rfl, hb4⟩
       have hcv4 := HCV.out _ (T3.out.drew.keep hb4)
       have HB4 := Lib.hid hb4
       clear hb4)
    | (go_at_call 15
       with_reducible refine (HWC.out _ ?_).mono ?_
       · with_reducible exact T3.out.drew.keep HB4.out
       rintro e w5 ⟨G5, c5, rfl, hw5, hb5⟩
       have hcv5 := HCV.out _ ((T3.out.drew.keep HB4.out).keep hb5)
       have HW5 := Lib.hid hw5
       have HB5 := Lib.hid hb5
       clear hw5 hb5)
    | (go_at_call 11
       with_reducible refine (same_any G5 A c5 c l l HW5.out ((H3.out.drew.keep HB4.out).keep HB5.out)).mono ?_
       rintro e w6 ⟨rfl, k6, rfl⟩
       have hcv6 := HCV.out _ (((T3.out.drew.keep HB4.out).keep HB5.out).drewN k6)))
  have hb7 := below_drewN (HB5.out) k6
  have hb8 := HB4.out.trans (hb7.mono HB4.out.size)
  have hb9 := (Below.refl w3.heap.size w3).drew.trans (hb8.mono (Below.refl w3.heap.size w3).drew.size)
  have G7 := Lib.hid (G3.out.keep hb9)
  have O7 := Lib.hid (O3.out.keep hb9)
  have HB7 := Lib.hid (HB3.out.trans (hb9.mono HB3.out.size))
  clear hb7 hb8 hb9 hcv hcv4 hcv5 hcv6 HCV HWC HWW HL8 HW5 HB4 HB5 H3 G3 O3 HB3 T3
  generalize w5.drewN k6 = w7 at *
  go_wp2_with fail
  refine (words_any O oc bs O7.out (by omega)).mono ?_
  rintro e w8 ⟨V, vc, rfl, hv8, hb8⟩
  have G8 := Lib.hid (G7.out.keep hb8)
  have O8 := Lib.hid (O7.out.keep hb8)
  have V8 := Lib.hid hv8
  have HB8 := Lib.hid (HB7.out.trans (hb8.mono HB7.out.size))
  clear hv8 hb8 G7 O7 HB7
  have hcv := conv_str d G8.out
  go_wp2_with fail
  have hrf := refWords_any (w := w8) (str bs) (by rw [str_size]; omega)
  rw [tx_str G8.out.byt] at hrf
  refine hrf.mono ?_
  clear hrf hcv
  rintro e w9 ⟨R, rc, rfl, hr9, hb9⟩
  have G9 := Lib.hid (G8.out.keep hb9)
  have O9 := Lib.hid (O8.out.keep hb9)
  have V9 := Lib.hid (V8.out.keep hb9)
  have R9 := Lib.hid hr9
  have HB9 := Lib.hid (HB8.out.trans (hb9.mono HB8.out.size))
  clear hr9 hb9 G8 O8 V8 HB8
  go_wp2_with fail
  refine (same_any V R vc rc _ _ V9.out R9.out).mono ?_
  rintro e w10 ⟨rfl, k, rfl⟩
  have G10 := Lib.hid (G9.out.drewN k)
  have O10 := Lib.hid (O9.out.drewN k)
  have V10 := Lib.hid (V9.out.keep (below_drewN (Below.refl _ _) k))
  have HB10 := Lib.hid (below_drewN HB9.out k)
  clear G9 O9 V9 R9 HB9
  generalize w9.drewN k = w10 at *
  have hcv1 := conv_str d G10.out
  have hcv2 := conv_str oc O10.out
  go_wp2_with fail
  clear hcv1 hcv2
  refine (bytes_any V vc (wrds bs) V10.out (by rw [wrds_len]; omega)).mono ?_
  rintro e w11 ⟨K, kc, rfl, hkc, hk11, hb11⟩
  have hbl : 8 * (wrds bs).length = (bs.length + 7) / 8 * 8 := by rw [wrds_len, Nat.mul_comm]
  have HTK := Lib.hid (back_take G10.out.byt)
  have HDR := Lib.hid (fun k hk => back_drop G10.out.byt (k := k) hk)
  have G11 := Lib.hid (G10.out.keep hb11)
  have HB11 := Lib.hid (HB10.out.trans (hb11.mono HB10.out.size))
  have HLB := Lib.hid (show (wflat (wrds bs)).length = 8 * (wrds bs).length from wflat_len _)
  have K11 := Lib.hid hk11
  clear hk11 hb11 G10 O10 V10 HB10
  generalize 8 * (wrds bs).length = n at *
  have hqn : bs.length ≤ n := by omega
  have hn8 : n ≤ bs.length + 8 := by omega
  have hni : ((bs.length : Int) + 7) / 8 * 8 = (n : Int) := by omega
  have hw1 : IntKind.wrap .i64 ((bs.length : Int) + 7) = (bs.length : Int) + 7 := by rw [IntKind.wrap_i64]; omega
  have hw3 : IntKind.wrap .i64 (((bs.length : Int) + 7) / 8 * 8) = (n : Int) := by rw [IntKind.wrap_i64]; omega
  clear hbl
  obtain ⟨B1, hs1, hB1⟩ := slice_upto K n kc bs.length hqn hkc
  obtain ⟨B2, hs2, hB2⟩ := slice_from K n kc bs.length hqn hkc
  have HB1 := Lib.hid hB1
  have HB2 := Lib.hid hB2
  have HS2 := Lib.hid hs2
  clear hB1 hB2 hs2
  have hc1 : ∀ j, (convert 38 9 (.slice B1 bs.length kc)).run Try.prog (w11.drewN j) = .ok (.string (str bs)) (w11.drewN j) := fun j => by
    have := conv_str kc (HB1.out _ _ HLB.out (K11.out.drewN j))
    rw [HTK.out] at this
    exact this
  have hc2 : ∀ j, (convert 38 9 (.slice B bs.length d)).run Try.prog (w11.drewN j) = .ok (.string (str bs)) (w11.drewN j) := fun j => conv_str d (G11.out.drewN j)
  go_wp2_with fail
  go_quiet (fail)
  have Z12 := Lib.hid (HB2.out _ _ HLB.out (K11.out.drewN nq))
  have HB12 := Lib.hid (below_drewN HB11.out nq)
  have hzl : ((wflat (wrds bs)).drop bs.length).length = n - bs.length := by rw [List.length_drop, HLB.out]
  clear hc1 hc2 hs1 hw1 hw3 hni HB1 HB2 K11 G11 HB11 HTK
  generalize w11.drewN nq = w12 at *
  generalize (wflat (wrds bs)).drop bs.length = Z at *
  have hs2 := HS2.out w12
  have hsub : ((n - bs.length : Nat) : Int) = (n : Int) - (bs.length : Int) := by omega
  go_wp2
  go_loopw [81] (fun i wr => ∃ (k : Nat), k ≤ n - bs.length ∧ i = .int .i64 (k : Int) ∧ wr = w12) (fun i _ => n - bs.length - (intOf i).toNat)
  case atStart => exact ⟨0, Nat.zero_le _, rfl, rfl⟩
  case round =>
    obtain ⟨k, hk, rfl, rfl⟩ := hrel
    by_cases hlt : k < n - bs.length
    · obtain ⟨b, o, rfl, hb, hcell⟩ := Z12.out.at' k (by omega)
      rw [HDR.out k (by omega)] at hcell
      clear hs2
      go_wp2
      exact ⟨⟨k + 1, by omega, by go_num, trivial⟩, by simp [intOf]; omega⟩
    · obtain rfl : k = n - bs.length := by omega
      clear hs2
      go_wp2
      go_ret
      exact ⟨rfl, HB12.out⟩

theorem packBytes_long (A B : Option Addr) (c d n m : Nat) (h : ¬ (n ≤ 60 ∧ m ≤ 400)) (hn : n ≤ 9223372036854775807) (hm : m ≤ 9223372036854775807) :
    Calls Try.prog 5 #[.slice A n c, .slice B m d] w fun r w' => r = .returned (.bool true) ∧ Below w.heap.size w w' := by
  have HL := Lib.hid (fun W => lives_any W)
  rcases Nat.lt_or_ge 60 n with h1 | h1
  · clear h
    go_enter Try.func5, Try.ntmps5
    go_wp2_with fail
    refine (HL.out _).mono ?_
    rintro e w1 ⟨rfl, hb⟩
    have HB := Lib.hid hb
    clear hb
    go_wp2_with fail
    refine (HL.out _).mono ?_
    rintro e w2 ⟨rfl, hb2⟩
    have HB2 := Lib.hid hb2
    clear hb2
    go_wp2
    go_ret
    exact ⟨rfl, HB.out.trans (HB2.out.mono HB.out.size)⟩
  · have h2 : 400 < m := by omega
    clear h
    go_enter Try.func5, Try.ntmps5
    go_wp2_with fail
    refine (HL.out _).mono ?_
    rintro e w1 ⟨rfl, hb⟩
    have HB := Lib.hid hb
    clear hb
    go_wp2_with fail
    refine (HL.out _).mono ?_
    rintro e w2 ⟨rfl, hb2⟩
    have HB2 := Lib.hid hb2
    clear hb2
    go_wp2
    go_ret
    exact ⟨rfl, HB.out.trans (HB2.out.mono HB.out.size)⟩

theorem packBytes_any (A B : Option Addr) (c d : Nat) (l bs : List Nat) (h : Wds w A l) (g : Bts w B bs) (hB : B = none → d = 0) :
    Calls Try.prog 5 #[.slice A l.length c, .slice B bs.length d] w fun r w' => r = .returned (.bool true) ∧ Below w.heap.size w w' := by
  by_cases hs : l.length ≤ 60 ∧ bs.length ≤ 400
  · exact packBytes_core A B c d l bs h g hB hs.1 hs.2
  · exact packBytes_long A B c d _ _ hs h.len g.len
end
end Pack
end Go.Proofs.Ytgpodmjdgcoidaa
