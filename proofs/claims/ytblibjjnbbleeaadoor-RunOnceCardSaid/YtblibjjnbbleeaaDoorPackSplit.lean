/- A word split: the program's values. -/
import Derived.Test.YtblibjjnbbleeaaDoorPackPack
import Derived.Deep.OwnRows
namespace Go.Proofs.YtblibjjnbbleeaaDoor
open Go.RowKit Go.MapKept
namespace Pack

/-- these words lie at A -/
structure Wds (w : World) (A : Option Addr) (l : List Nat) : Prop where
  u64 : ∀ x ∈ l, x < 18446744073709551616
  len : l.length ≤ 9223372036854775807
  at' : ∀ j (h : j < l.length), ∃ b o, A = some ⟨b, o, none⟩ ∧ b < w.heap.size ∧ w.cell? ⟨b, o + j, none⟩ = some (.int .u64 (l[j] : Int))

theorem Wds.keep {w w' : World} {A : Option Addr} {l : List Nat} (h : Wds w A l) (hb : Below w.heap.size w w') : Wds w' A l :=
  ⟨h.u64, h.len, fun j hj => by
    obtain ⟨b, o, e, hlt, hc⟩ := h.at' j hj
    exact ⟨b, o, e, Nat.lt_of_lt_of_le hlt hb.size, (hb.cell (p := ⟨b, o + j, none⟩) hlt).trans hc⟩⟩

theorem wds_nil (W : World) (A : Option Addr) : Wds W A [] := ⟨fun _ h => by simp at h, by simp, fun j h => by simp at h⟩

theorem u64_info : (Tryd.prog.info? 68).map (fun i => (i.zero, i.size, i.bytes)) = some (some (.int .u64 0), 1, 8) := by kernel_rfl

/-- a word's values up to m, noughts behind them -/
def upto (l : List Nat) (m i : Nat) : Value := .int .u64 ((if i < m then l[i]?.getD 0 else 0 : Nat) : Int)

theorem upto_step {l : List Nat} {m : Nat} (j : Nat) : (if j = m then Value.int .u64 ((l[m]?.getD 0 : Nat) : Int) else upto l m j) = upto l (m + 1) j := by
  unfold upto
  by_cases h : j = m
  · subst h
    rw [if_pos rfl, if_pos (by omega)]
  · rw [if_neg h]
    by_cases h2 : j < m
    · rw [if_pos h2, if_pos (by omega)]
    · rw [if_neg h2, if_neg (by omega)]

theorem row_wds {W : World} {g n : Nat} {l : List Nat} (h : W.rowIs g 68 n (upto l n)) (hl : l.length = n) (hn : n ≤ 9223372036854775807) (hu : ∀ x ∈ l, x < 18446744073709551616) : Wds W (some ⟨g, 0, none⟩) l :=
  ⟨hu, by omega, fun j hj => ⟨g, 0, rfl, h.lt, by
    rw [Nat.zero_add, h.cell (by omega)]
    unfold upto
    rw [if_pos (by omega), List.getElem?_eq_getElem hj]
    rfl⟩⟩

theorem sp_get {l : List Int} {m : Nat} (h : m < l.length) (x : Nat) : (sp x l)[m]?.getD 0 = rest x (l.take m) % 2 ^ l[m].toNat := by
  have e : sp x l = sp x (l.take (m + 1)) ++ sp (rest x (l.take (m + 1))) (l.drop (m + 1)) := by rw [← sp_append, List.take_append_drop]
  rw [e, sp_step h, List.append_assoc, List.getElem?_append_right (by rw [sp_len, List.length_take]; omega), sp_len, List.length_take, Nat.min_eq_left (by omega), Nat.sub_self]
  rfl

section
variable {w : World}
set_option maxHeartbeats 1600000 in
set_option maxRecDepth 100000 in
theorem split_any (x : Nat) (hx : x < 18446744073709551616) (A : Option Addr) (c : Nat) (l : List Int) (h : Nts w A l) :
    Calls Tryd.prog 50 #[.int .u64 (x : Int), .slice A l.length c] w fun e w' => ∃ (G : Option Addr) (gc : Nat), e = .returned (.tuple #[.slice G ((split x l).getD []).length gc, .bool (split x l).isSome]) ∧ Wds w' G ((split x l).getD []) ∧ Below w.heap.size w w' := by
  have hn := h.len
  have H := Lib.hid h
  clear h
  go_enter Tryd.func50, Tryd.ntmps50
  go_wp2_with fail
  refine (total_any A c l H.out).mono ?_
  rintro e w' ⟨rfl, rfl⟩
  have HL := Lib.hid (fun w x n hx hn => lowest_any w x n hx hn)
  cases ht : tot 0 l with
  | none =>
    have HS := Lib.hid (show split x l = none by simp [split, ht])
    go_wp2
    go_ret2
    refine ⟨none, 0, ?_, ?_, Below.refl _ _⟩
    · rw [HS.out]
      rfl
    · rw [HS.out]
      exact wds_nil _ _
  | some t =>
    have htl := tot_le (by omega) ht
    by_cases h0 : x / 2 ^ t = 0
    · have HS := Lib.hid (show split x l = some (sp x l) by simp [split, ht, h0])
      have HT := Lib.hid (fun m => tot_take ht m)
      have HT2 := Lib.hid ht
      clear ht
      have hd : (x : Int) / 2 ^ t = 0 := by
        have : (x : Int) / 2 ^ t = ((x / 2 ^ t : Nat) : Int) := by simp
        rw [this, h0]
        rfl
      have hmk := run_make_row' (P := Tryd.prog) 65 68 _ 8 Tryd.underlying65 u64_info rfl .i64 .i64 l.length (by omega) hn w
      have hrow : (w.alloc (.cells (madeCells #[.int .u64 0] l.length) 68)).rowIs w.heap.size 68 l.length (upto (sp x l) 0) := (World.rowIs_made w (.int .u64 0) l.length 68).congr (fun i _ => by simp [upto])
      have hbel : Below w.heap.size w (w.alloc (.cells (madeCells #[.int .u64 0] l.length) 68)) := (Below.refl _ _).alloc (Nat.le_refl _) _
      have HR := Lib.hid hrow
      have HB := Lib.hid hbel
      generalize w.alloc (.cells (madeCells #[.int .u64 0] l.length) 68) = w1 at *
      clear hrow hbel
      simp only [Option.getD_some, Option.isSome_some]
      go_wp2
      go_loopw [0, 29] (fun s i wr => ∃ (m : Nat), m ≤ l.length ∧ i = .int .i64 (m : Int) ∧ s = .int .u64 ((rest x (l.take m) : Nat) : Int) ∧ wr.rowIs w.heap.size 68 l.length (upto (sp x l) m) ∧ Below w.heap.size w wr) (fun _ i _ => l.length - (intOf i).toNat)
      case atStart => exact ⟨0, Nat.zero_le _, rfl, rfl, HR.out, HB.out⟩
      case round =>
        obtain ⟨m, hm, rfl, rfl, hrow, hbel⟩ := hrel
        by_cases hlt : m < l.length
        · obtain ⟨b, o, rfl, hb, hcell⟩ := H.out.at' m hlt
          have hcell := (hbel.cell (p := ⟨b, o + m, none⟩) hb).trans hcell
          have hi := H.out.i64 _ (List.getElem_mem hlt)
          have HG := Lib.hid (sp_get hlt x)
          have HX := Lib.hid (rest_step hlt x)
          have hxr : rest x (l.take m) < 18446744073709551616 := Nat.lt_of_le_of_lt (rest_le _ _) hx
          obtain ⟨s, hs1, hs2⟩ := HT.out m
          obtain ⟨s', hs3, _⟩ := HT.out (m + 1)
          rw [tot_step hlt hs1] at hs3
          have hf : 1 ≤ l[m] ∧ l[m] ≤ 64 := by
            split at hs3
            · omega
            · cases hs3
          clear hs1 hs3
          generalize l[m] = n at *
          obtain ⟨q, rfl⟩ := Int.eq_ofNat_of_zero_le (show 0 ≤ n by omega)
          simp only [Int.toNat_natCast] at HG HX
          generalize rest x (l.take m) = y at *
          have hc0 := hrow.cell hlt
          have hf0 := hrow.frozen m
          have HW := Lib.hid hrow
          have HBW := Lib.hid hbel
          clear hrow
          have HLL := Lib.hid (HL.out wr y q hxr (by omega))
          go_wp2_with fail
          refine HLL.out.mono ?_
          rintro e w' ⟨rfl, rfl⟩
          go_wp2
          refine ⟨⟨m + 1, by omega, by go_num, by rw [HX.out]; simp, ?_, HBW.out.setCell (p := ⟨w.heap.size, m, none⟩) (Nat.le_refl _) _⟩, by simp [intOf]; omega⟩
          have hst := HW.out.set m (.int .u64 ((y % 2 ^ q : Nat) : Int))
          rw [← HG.out] at hst
          have h2 := hst.congr (fun j _ => upto_step j)
          rw [HG.out] at h2
          simpa using h2
        · obtain rfl : m = l.length := by omega
          have HW := Lib.hid (row_wds hrow (sp_len _ _) hn (fun y hy => Nat.lt_of_le_of_lt (sp_le _ _ y hy) hx))
          have HBW := Lib.hid hbel
          clear hrow hbel
          go_wp2
          go_ret2
          refine ⟨some ⟨w.heap.size, 0, none⟩, l.length, ?_, ?_, HBW.out⟩
          · rw [HS.out]
            simp [sp_len]
          · rw [HS.out]
            exact HW.out
    · have HS := Lib.hid (show split x l = none by simp [split, ht, h0])
      have hd : (x : Int) / 2 ^ t = ((x / 2 ^ t : Nat) : Int) := by simp
      clear ht
      simp only [Option.getD_some, Option.isSome_some]
      generalize x / 2 ^ t = d at *
      go_wp2
      go_ret2
      refine ⟨none, 0, ?_, ?_, Below.refl _ _⟩
      · rw [HS.out]
        rfl
      · rw [HS.out]
        exact wds_nil _ _
end
end Pack
end Go.Proofs.YtblibjjnbbleeaaDoor
