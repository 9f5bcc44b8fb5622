/- A map of names; whether two entries have one name: the program's alike. -/
import Derived.Test.YtdgbpnchkgdmmaaEntLives
import Derived.Carry
namespace Go.Proofs.Ytdgbpnchkgdmmaa
open Go.RowKit Go.MapKept
namespace Ent

/-- the map's entry of a name, the i-th -/
def ment (i : Nat) (s : ByteArray) : MapEntry := ⟨.string s, .bool true, i⟩
/-- the map of names -/
def ments (l : List ByteArray) : List MapEntry := l.mapIdx ment
theorem ments_snoc (l : List ByteArray) (s : ByteArray) : ments (l ++ [s]) = ments l ++ [ment l.length s] := by
  unfold ments
  rw [List.mapIdx_append]
  simp
theorem mem_ments {l : List ByteArray} {e : MapEntry} (h : e ∈ ments l) : ∃ i s, s ∈ l ∧ e = ment i s := by
  unfold ments at h
  obtain ⟨i, hi, rfl⟩ := List.mem_mapIdx.1 h
  exact ⟨i, l[i], List.getElem_mem hi, rfl⟩

theorem ba_ne {s t : ByteArray} (h : s ≠ t) : (s == t) = false := by
  cases e : (s == t) with
  | false => rfl
  | true => exact absurd ((bytes_beq s t).1 e) h
theorem ba_eq (s : ByteArray) : (s == s) = true := (bytes_beq s s).2 rfl

theorem find_none (s : ByteArray) : ∀ (es : List MapEntry) (i : Nat), (∀ e ∈ es, ∃ j t, t ≠ s ∧ e = ment j t) → Instr.findNow .string (.string s) es i = some none
  | [], _, _ => rfl
  | e :: r, i, h => by
    obtain ⟨j, t, ht, rfl⟩ := h e (List.mem_cons_self ..)
    have hne : (s == t) = false := ba_ne (fun e => ht e.symm)
    simp only [Instr.findNow, ment, Instr.sameNow, hne]
    exact find_none s r (i + 1) (fun e he => h e (List.mem_cons_of_mem _ he))
theorem find_some (s : ByteArray) : ∀ (es : List MapEntry) (i : Nat), (∀ e ∈ es, ∃ j t, e = ment j t) → (∃ j, ment j s ∈ es) → ∃ k, Instr.findNow .string (.string s) es i = some (some (k, .bool true))
  | [], _, _, h => by
    obtain ⟨j, h⟩ := h
    simp at h
  | e :: r, i, h, hx => by
    obtain ⟨j, t, rfl⟩ := h e (List.mem_cons_self ..)
    by_cases ht : s = t
    · subst ht
      exact ⟨i, by simp [Instr.findNow, ment, Instr.sameNow, ba_eq]⟩
    · have hne : (s == t) = false := ba_ne ht
      obtain ⟨j', hj⟩ := hx
      obtain ⟨k, hk⟩ := find_some s r (i + 1) (fun e he => h e (List.mem_cons_of_mem _ he)) ⟨j', by
        rcases List.mem_cons.1 hj with h1 | h1
        · simp [ment] at h1
          exact absurd h1.1 ht
        · exact h1⟩
      refine ⟨k, ?_⟩
      simp only [Instr.findNow, ment, Instr.sameNow, hne]
      exact hk

/-- the world with another map in block b -/
def putMap (w : World) (b : Nat) (es : List MapEntry) (c : Nat) : World := { w with heap := w.heap.setIfInBounds b (.map es.toArray c) }
theorem putMap_at {w : World} {b c : Nat} {es : List MapEntry} (hb : b < w.heap.size) : (putMap w b es c).heap[b]? = some (.map es.toArray c) := by simp [putMap, hb]
theorem putMap_below {w0 w : World} {N b c : Nat} {es : List MapEntry} (h : Below N w0 w) (hb : N ≤ b) : Below N w0 (putMap w b es c) :=
  h.trans ⟨rfl, rfl, rfl, by simp [putMap], fun k hk => by
    have : b ≠ k := by omega
    simp [putMap, this]⟩

theorem zero_bool (w : World) : (zeroValue 4).run Try.prog w = .ok (.bool false) w := by kernel_rfl
section
variable {w : World} {b c : Nat} {l : List ByteArray} {s : ByteArray}
theorem run_look_no (hb : w.heap[b]? = some (.map (ments l).toArray c)) (hs : s ∉ l) : (Instr.lookup 65 (.map (some b)) (.string s) false).run Try.prog w = .ok (.bool false) w := by
  have hf := find_none s (ments l) 0 (fun e he => by
    obtain ⟨i, t, ht, rfl⟩ := mem_ments he
    exact ⟨i, t, fun h => hs (h ▸ ht), rfl⟩)
  simp [Instr.lookup, run_underlying Try.underlying65, MapKept.run_getObj_map hb, run_checkKey (k := .string s) Try.underlying9 trivial, run_findKey Try.underlying9 hf, Result.andThen]
theorem run_look_yes (hb : w.heap[b]? = some (.map (ments l).toArray c)) (hs : s ∈ l) : (Instr.lookup 65 (.map (some b)) (.string s) false).run Try.prog w = .ok (.bool true) w := by
  obtain ⟨k, hf⟩ := find_some s (ments l) 0 (fun e he => by
    obtain ⟨i, t, _, rfl⟩ := mem_ments he
    exact ⟨i, t, rfl⟩) (by
    obtain ⟨i, hi, rfl⟩ := List.getElem_of_mem hs
    exact ⟨i, by
      unfold ments
      exact List.mem_mapIdx.2 ⟨i, hi, rfl⟩⟩)
  simp only [Instr.lookup, Sem.run_bind, run_underlying Try.underlying65, Result.andThen, MapKept.run_getObj_map hb, Sem.run_pure, run_checkKey (k := .string s) Try.underlying9 trivial, run_findKey Try.underlying9 hf]
  rfl
theorem run_put (hb : w.heap[b]? = some (.map (ments l).toArray l.length)) (hs : s ∉ l) : (Instr.mapUpdate 65 (.map (some b)) (.string s) (.bool true)).run Try.prog w = .ok () (putMap w b (ments (l ++ [s])) (l.length + 1)) := by
  have hf := find_none s (ments l) 0 (fun e he => by
    obtain ⟨i, t, ht, rfl⟩ := mem_ments he
    exact ⟨i, t, fun h => hs (h ▸ ht), rfl⟩)
  simp only [Instr.mapUpdate, Sem.run_bind, run_underlying Try.underlying65, Result.andThen, MapKept.run_getObj_map hb, run_checkKey (k := .string s) Try.underlying9 trivial, run_findKey Try.underlying9 hf, run_setObj_map _ hb]
  simp [putMap, ments_snoc, ment]
end

theorem nameOf_any (w : World) (s : ByteArray) (i : Int) : Calls Try.prog 30 #[.agg #[.string s, .int .i64 i]] w fun r w' => r = .returned (.string s) ∧ Below w.heap.size w w' := by
  go_enter Try.func30, Try.ntmps30
  go_wp2
  go_ret
  exact ⟨rfl, (Below.refl _ _).alloc (Nat.le_refl _) _⟩

/-- the names -/
def nms (l : List En) : List ByteArray := l.map Prod.fst
/-- have two one name? -/
def twice (l : List ByteArray) : Bool := !decide l.Nodup
theorem twice_yes {l : List ByteArray} (h : ¬ l.Nodup) : twice l = true := by
  unfold twice
  rw [decide_eq_false h]
  rfl
theorem twice_no {l : List ByteArray} (h : l.Nodup) : twice l = false := by
  unfold twice
  rw [decide_eq_true h]
  rfl
theorem nms_take {l : List En} {m : Nat} (h : m < l.length) : nms (l.take (m + 1)) = nms (l.take m) ++ [l[m].1] := by
  unfold nms
  rw [List.take_succ_eq_append_getElem h, List.map_append]
  rfl
theorem nms_len (l : List En) : (nms l).length = l.length := by
  unfold nms
  rw [List.length_map]

set_option maxHeartbeats 1000000 in
theorem alike_any (w : World) (A : Option Addr) (c n : Nat) (l : List En) (h : Es w A l) (hn : n = l.length) :
    Calls Try.prog 29 #[.slice A n c, .func (.func 30) #[] #[]] w fun r w' => r = .returned (.bool (twice (nms l))) ∧ Below w.heap.size w w' := by
  subst hn
  have hn := h.len
  have H := Lib.hid h
  clear h
  have HNM := Lib.hid nameOf_any
  have hmm := @run_makeMap Try.prog
  go_enter Try.func29, Try.ntmps29
  go_wp2
  clear hmm
  go_loopw [12] (fun i wr => ∃ m : Nat, m ≤ l.length ∧ i = .int .i64 (m : Int) ∧ wr.heap[w.heap.size]? = some (.map (ments (nms (l.take m))).toArray m) ∧ (nms (l.take m)).Nodup ∧ Below w.heap.size w wr) (fun i _ => l.length - (intOf i).toNat)
  case atStart => exact ⟨0, Nat.zero_le _, rfl, get_new rfl, by simp [nms], (Below.refl _ _).alloc (Nat.le_refl _) _⟩
  case round =>
    obtain ⟨m, hm, rfl, hmap, hnd, hb⟩ := hrel
    have HM := Lib.hid hmap
    have HD := Lib.hid hnd
    have HB := Lib.hid hb
    have hwr : w.heap.size < wr.heap.size := (Array.getElem?_eq_some_iff.1 hmap).1
    clear hmap hnd
    by_cases hlt : m < l.length
    · obtain ⟨b, o, rfl, hbb, hc0, hc1⟩ := H.out.at' m hlt
      have hc0 := (hb.cell (p := ⟨b, o + m * 2, none⟩) hbb).trans hc0
      have hc1 := (hb.cell (p := ⟨b, o + m * 2 + 1, none⟩) hbb).trans hc1
      have HT := Lib.hid (nms_take hlt)
      have HPF := Lib.hid (show nms (l.take m) ++ [l[m].1] <+: nms l by
        rw [← nms_take hlt]
        unfold nms
        exact (List.take_prefix (m + 1) l).map _)
      clear hb
      have HML := Lib.hid (show (nms (l.take m)).length = m by rw [nms_len, List.length_take]; omega)
      generalize l[m] = e at *
      obtain ⟨s, i⟩ := e
      simp only at hc0 hc1 HT HPF
      have hba := (Below.refl wr.heap.size wr).alloc (Nat.le_refl _) (.cells #[.string s, .int .i64 i] 23)
      go_wp2_with fail
      refine (HNM.out _ s i).mono ?_
      rintro e w2 ⟨rfl, hb2⟩
      have hb3 := hba.trans (hb2.mono hba.size)
      have hmp : w2.heap[w.heap.size]? = some (.map (ments (nms (l.take m))).toArray m) := (hb3.block _ hwr).trans HM.out
      have HB3 := Lib.hid (HB.out.trans (hb3.mono HB.out.size))
      have hw2 : w.heap.size < w2.heap.size := Nat.lt_of_lt_of_le hwr hb3.size
      clear hba hb2 hb3
      by_cases hs : s ∈ nms (l.take m)
      · have hlk := run_look_yes hmp hs
        have HTW := Lib.hid (twice_yes (fun hnd : (nms l).Nodup => by
          have h1 := hnd.sublist HPF.out.sublist
          rw [List.nodup_append] at h1
          exact h1.2.2 s hs s (by simp) rfl))
        go_wp2
        go_ret
        exact ⟨by rw [HTW.out]; rfl, HB3.out⟩
      · have hlk := run_look_no hmp hs
        rw [← HML.out] at hmp
        have hpt := run_put (by rw [HML.out] at hmp ⊢; exact hmp) hs
        rw [HML.out] at hpt
        have HAT := Lib.hid (putMap_at (c := m + 1) (es := ments (nms (l.take m) ++ [s])) hw2)
        have HPB := Lib.hid (putMap_below (c := m + 1) (es := ments (nms (l.take m) ++ [s])) HB3.out (Nat.le_refl w.heap.size))
        have HND := Lib.hid (show (nms (l.take m) ++ [s]).Nodup by
          rw [List.nodup_append]
          refine ⟨HD.out, by simp, fun a ha b hb => ?_⟩
          obtain rfl : b = s := by simpa using hb
          exact fun e => hs (e ▸ ha))
        clear hmp
        go_wp2
        refine ⟨⟨m + 1, by omega, by go_num, ?_, ?_, HPB.out⟩, by simp [intOf]; omega⟩
        · rw [HT.out]
          exact HAT.out
        · rw [HT.out]
          exact HND.out
    · obtain rfl : m = l.length := by omega
      rw [List.take_length] at HD
      have HTW := Lib.hid (twice_no HD.out)
      go_wp2
      go_ret
      exact ⟨by rw [HTW.out]; rfl, HB.out⟩
end Ent
end Go.Proofs.Ytdgbpnchkgdmmaa
