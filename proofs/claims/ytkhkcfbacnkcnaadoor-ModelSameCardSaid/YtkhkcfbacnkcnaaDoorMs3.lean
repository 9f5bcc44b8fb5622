/- Texts laid together: TrkFollow, TrkAt, TrkFind, TrkPut, TrkAdd, TrkCreate, TrkZeros, TrkGrow, TrkWrite, TreIns, TreAll, TreKids, TreUnlink, TreRead, TreRmdir, TreTrunc, TreWrite, TrkWr. -/
import Derived.Test.YtkhkcfbacnkcnaaDoorMs2
import Derived.WalkSpells
import Derived.Maps.AppendAt
import Derived.Lib.AppendZerosOnto
import Derived.Laws.CopyRow
import Derived.Deep.RegionHeld3
import Derived.Deep.RegionLaw
import Derived.Deep.DeepCutAuto
import Derived.Test.YtkhkcfbacnkcnaaDoorMs1
/- The program's way to names. -/
namespace Go.Proofs.YtkhkcfbacnkcnaaDoor
open Go.RowKit Go.MapKept
namespace Trk
open Tre (Nm Th fi isDirAt dirT goT goF setT dropT)
open Pat (Txs)

/-- a tree in which each thing has its directory -/
structure Wf (t : List Th) : Prop where
  once : Once t
  nm : ∀ x ∈ t, x.1 ≠ [] ∧ Pat.IsNames x.1
  up : ∀ p x v, T t (p ++ [x]) = some v → ∃ s, T t p = some (true, s)
  dat : ∀ p s, T t p = some (true, s) → s = ByteArray.empty
  size : ∀ x ∈ t, x.2.2.size ≤ 268435456

/-- what is told from the k-th names on -/
def rest (t : List Th) (n : Nm) (k : Nat) (d : Bool) : Int := if k = n.length then 0 else if d = false then 6 else goF t n (n.length - k) (k + 1)
theorem goT_rest (t : List Th) (n : Nm) : goT t n = rest t n 0 true := by
  unfold Tre.goT rest
  by_cases h : 0 = n.length
  · rw [if_pos h, ← h]
    rfl
  · rw [if_neg h, if_neg (by simp)]
    rfl
theorem rest_end {t : List Th} {n : Nm} {d : Bool} : rest t n n.length d = 0 := if_pos rfl
theorem rest_file {t : List Th} {n : Nm} {k : Nat} (hk : k < n.length) : rest t n k false = 6 := by
  unfold rest
  rw [if_neg (by omega), if_pos rfl]
theorem take_ne {n : Nm} {k : Nat} (hk : k < n.length) : n.take (k + 1) ≠ [] := fun e => by
  have := congrArg List.length e
  rw [List.length_take] at this
  simp at this
  rw [this] at hk
  simp at hk
theorem rest_none {t : List Th} {n : Nm} {k : Nat} (hk : k < n.length) (h : T t (n.take (k + 1)) = none) : rest t n k true = 4 := by
  unfold rest
  rw [if_neg (by omega), if_neg (by simp), show n.length - k = (n.length - k - 1) + 1 by omega]
  unfold Tre.goF
  rw [(T_no h).2]
theorem rest_some {t : List Th} {n : Nm} {k : Nat} (hk : k < n.length) {v : Bool × ByteArray} (h : T t (n.take (k + 1)) = some v) : rest t n k true = rest t n (k + 1) v.1 := by
  cases hf : fi t (n.take (k + 1)) with
  | none => rw [T_none (take_ne hk) hf] at h; cases h
  | some i =>
    obtain ⟨hi, h2⟩ := T_fi (take_ne hk) hf
    rw [h2] at h
    injection h with h
    have hd : isDirAt t i = v.1 := by unfold Tre.isDirAt; rw [List.getElem?_eq_getElem hi, ← h]
    unfold rest
    rw [if_neg (by omega), if_neg (by simp), show n.length - k = (n.length - (k + 1)) + 1 by omega]
    rw [Tre.goF, hf]
    simp only [hd]
    by_cases he : k + 1 = n.length
    · rw [if_neg (by omega), if_pos he, he, Nat.sub_self]
      rfl
    · rw [if_neg he]
      by_cases hv : v.1 = false
      · rw [if_pos ⟨by omega, hv⟩, if_pos hv]
      · rw [if_neg (fun h => hv h.2), if_neg hv]
theorem right_len {s : ByteArray} (h : Ent.Right (Crc.tx s)) : s.size ≤ maxLen := by
  have := h.1.2
  rw [Crc.tx_len] at this
  unfold maxLen
  omega

/-- what is there, if the way goes there -/
def gv (t : List Th) (L : Nm → Nd) (n : Nm) : Option Nat := if goT t n = 0 then some (L n).b else none
theorem gv_yes {t : List Th} {L : Nm → Nd} {n : Nm} (h : goT t n = 0) : gv t L n = some (L n).b := if_pos h
theorem gv_no {t : List Th} {L : Nm → Nd} {n : Nm} (h : goT t n ≠ 0) : gv t L n = none := if_neg h

set_option maxRecDepth 100000 in
set_option maxHeartbeats 4000000 in
theorem follow_any (w : World) (N b0 c m : Nat) (t : List Th) (L : Nm → Nd) (A : Option Addr) (n : Nm) (hM : Mem w N t L) (hb : (L []).b = b0) (h : Txs w A n) (hn : Pat.IsNames n) (hm : n.length = m) :
    Calls Tryd.prog 40 #[.pointer (some ⟨b0, 0, none⟩), .slice A m c] w fun e w' => e = .returned (.tuple #[pv (gv t L n), .int .i64 (goT t n)]) ∧ w' = w := by
  subst hm
  have hl := h.len
  have H := Lib.hid h
  have HM := Lib.hid hM
  have HN := Lib.hid hn
  have HX := Lib.hid (goT_rest t n)
  clear h hM hn
  go_enter Tryd.func40, Tryd.ntmps40
  go_wp2
  go_loopw [6, 14] (fun x ix wr => ∃ (k : Nat) (d : Bool) (s : ByteArray), k ≤ n.length ∧ x = pv (some (L (n.take k)).b) ∧ ix = .int .i64 (k : Int) ∧ wr = w ∧ T t (n.take k) = some (d, s) ∧ goT t n = rest t n k d) (fun _ ix _ => n.length - (intOf ix).toNat)
  case atStart => exact ⟨0, true, ByteArray.empty, Nat.zero_le _, by rw [List.take_zero, hb]; rfl, rfl, rfl, by rw [List.take_zero, T_root], HX.out⟩
  case round =>
    obtain ⟨k, d, s, hk, rfl, rfl, rfl, hT, hR⟩ := hrel
    by_cases hlt : k < n.length
    · obtain ⟨b, o, rfl, _, hc0⟩ := H.out.at' k hlt
      have hs := right_len (HN.out.2 _ (List.getElem_mem hlt))
      have HD := Lib.hid (HM.out.nod _ _ _ hT)
      have h0 := HD.out.c0
      have h2 := HD.out.c2
      have HK := Lib.hid HD.out.map
      have HT := Lib.hid hT
      have HR := Lib.hid hR
      have HE := Lib.hid (show n.take (k + 1) = n.take k ++ [n[k]] from List.take_succ_eq_append_getElem hlt)
      clear hT hR
      unfold pv
      generalize n[k] = s0 at *
      generalize hx : L (n.take k) = x at *
      cases d with
      | false =>
        simp only [Bool.not_false] at h0
        have h6 := HR.out
        rw [rest_file hlt] at h6
        have HZ := Lib.hid (show (.tuple #[.pointer none, .int .i64 6] : Value) = .tuple #[pv (gv t L n), .int .i64 (goT t n)] by rw [gv_no (by omega), h6]; rfl)
        clear h6
        go_wp2
        refine bodyPost_ret (v := .tuple #[.pointer none, .int .i64 6]) ?_ rfl ⟨by rw [HZ.out], rfl⟩
        simp [results, Tryd.results40, go_sem]
      | true =>
        simp only [Bool.not_true] at h0
        have hlk := HD.out.look s0 hs
        unfold kb at hlk
        rw [← HE.out] at hlk
        cases hv : T t (n.take (k + 1)) with
        | none =>
          rw [hv] at hlk
          simp only [Option.map_none, pv] at hlk
          have h4 := HR.out
          rw [rest_none hlt hv] at h4
          have HZ := Lib.hid (show (.tuple #[.pointer none, .int .i64 4] : Value) = .tuple #[pv (gv t L n), .int .i64 (goT t n)] by rw [gv_no (by omega), h4]; rfl)
          clear hv h4
          go_wp2
          refine bodyPost_ret (v := .tuple #[.pointer none, .int .i64 4]) ?_ rfl ⟨by rw [HZ.out], rfl⟩
          simp [results, Tryd.results40, go_sem]
        | some v =>
          rw [hv] at hlk
          simp only [Option.map_some, pv] at hlk
          have HV := Lib.hid hv
          have h4 := HR.out
          rw [rest_some hlt hv] at h4
          have H4 := Lib.hid h4
          clear hv h4
          go_wp2
          refine ⟨⟨k + 1, v.1, v.2, by omega, rfl, by go_num, by first | rfl | trivial, HV.out, H4.out⟩, by simp [intOf]; omega⟩
    · obtain rfl : k = n.length := by omega
      rw [List.take_length] at hT
      rw [rest_end] at hR
      have HZ := Lib.hid (show (.tuple #[pv (some (L n).b), .int .i64 0] : Value) = .tuple #[pv (gv t L n), .int .i64 (goT t n)] by rw [gv_yes hR, hR])
      rw [List.take_length]
      clear hR
      generalize pv (some (L n).b) = z at *
      go_wp2
      refine bodyPost_ret (v := .tuple #[z, .int .i64 0]) ?_ rfl ⟨by rw [HZ.out], rfl⟩
      simp [results, Tryd.results40, go_sem]
end Trk
end Go.Proofs.YtkhkcfbacnkcnaaDoor
/- What the program finds at a path. -/
namespace Go.Proofs.YtkhkcfbacnkcnaaDoor
open Go.RowKit Go.MapKept
namespace Trk
open Tre (Nm Th fi isDirAt dirT goT goF setT dropT fileT)
open Pat (Txs)

theorem rest_zero {t : List Th} {n : Nm} : ∀ (f k : Nat) (v : Bool × ByteArray), n.length - k = f → k ≤ n.length → T t (n.take k) = some v → rest t n k v.1 = 0 → ∃ u, T t n = some u
  | 0, k, v, hf, hk, hv, _ => by
    obtain rfl : k = n.length := by omega
    rw [List.take_length] at hv
    exact ⟨v, hv⟩
  | f + 1, k, (d, s), hf, hk, hv, h0 => by
    have hlt : k < n.length := by omega
    cases d with
    | false => rw [rest_file hlt] at h0; omega
    | true =>
      cases hu : T t (n.take (k + 1)) with
      | none => rw [rest_none hlt hu] at h0; omega
      | some u =>
        rw [rest_some hlt hu] at h0
        exact rest_zero f (k + 1) u (by omega) (by omega) hu h0
theorem goT_some {t : List Th} {n : Nm} (h : goT t n = 0) : ∃ u, T t n = some u := by
  rw [goT_rest] at h
  exact rest_zero n.length 0 (true, ByteArray.empty) (by omega) (by omega) (by rw [List.take_zero, T_root]) h
theorem rest_bound {t : List Th} {n : Nm} : ∀ (f k : Nat) (d : Bool), n.length - k = f → k ≤ n.length → rest t n k d = 0 ∨ rest t n k d = 4 ∨ rest t n k d = 6
  | 0, k, d, hf, hk => by
    obtain rfl : k = n.length := by omega
    exact .inl rest_end
  | f + 1, k, d, hf, hk => by
    have hlt : k < n.length := by omega
    cases d with
    | false => exact .inr (.inr (rest_file hlt))
    | true =>
      cases hu : T t (n.take (k + 1)) with
      | none => exact .inr (.inl (rest_none hlt hu))
      | some u =>
        rw [rest_some hlt hu]
        exact rest_bound f (k + 1) u.1 (by omega) (by omega)
theorem goT_bound (t : List Th) (n : Nm) : goT t n = 0 ∨ goT t n = 4 ∨ goT t n = 6 := by
  rw [goT_rest]
  exact rest_bound n.length 0 true (by omega) (by omega)
theorem dirT_T {t : List Th} {n : Nm} {v : Bool × ByteArray} (h : T t n = some v) : dirT t n = v.1 := by
  unfold Tre.dirT
  by_cases h0 : n = []
  · rw [if_pos h0]
    rw [h0, T_root] at h
    injection h with h
    rw [← h]
  · rw [if_neg h0]
    cases hf : fi t n with
    | none => rw [T_none h0 hf] at h; cases h
    | some i =>
      obtain ⟨hi, h2⟩ := T_fi h0 hf
      rw [h2] at h
      injection h with h
      simp only
      unfold Tre.isDirAt
      rw [List.getElem?_eq_getElem hi, ← h]
theorem fi_of_T {t : List Th} {n : Nm} (h0 : n ≠ []) {v : Bool × ByteArray} (h : T t n = some v) : ∃ i, fi t n = some i := by
  cases hf : fi t n with
  | none => rw [T_none h0 hf] at h; cases h
  | some i => exact ⟨i, rfl⟩
theorem spl_is {s : ByteArray} {l : List ByteArray} (h : Pat.spl s = some l) : Pat.IsNames l := by
  unfold Pat.spl at h
  split at h
  · cases h
  · split at h
    · split at h
      · injection h with h
        subst h
        exact ⟨by simp, fun n hn => by simp at hn⟩
      · split at h
        · rename_i hi
          injection h with h
          subst h
          exact hi
        · cases h
    · cases h

/-- the error of going to a path; what is there -/
def ge (t : List Th) (p : ByteArray) : Int := match Pat.spl p with | none => 3 | some n => goT t n
def gn (t : List Th) (L : Nm → Nd) (p : ByteArray) : Option Nat := match Pat.spl p with | none => none | some n => gv t L n

set_option maxRecDepth 100000 in
set_option maxHeartbeats 4000000 in
theorem goTo_any (w : World) (N b0 : Nat) (t : List Th) (L : Nm → Nd) (p : ByteArray) (hM : Mem w N t L) (hb : (L []).b = b0) (hp : p.size < 4294967281) :
    Calls Tryd.prog 43 #[.pointer (some ⟨b0, 0, none⟩), .string p] w fun e w' => e = .returned (.tuple #[pv (gn t L p), .int .i64 (ge t p)]) ∧ Below w.heap.size w w' := by
  have HM := Lib.hid hM
  clear hM
  go_enter Tryd.func43, Tryd.ntmps43
  go_wp2_with fail
  refine (Pat.split_any w p hp).mono ?_
  rintro e w1 ⟨hb1, h1⟩
  have HB1 := Lib.hid hb1
  clear hb1
  rcases h1 with ⟨l, A, c, hs, rfl, hc, ht⟩ | ⟨hs, rfl⟩
  · have HS := Lib.hid hs
    have HZ := Lib.hid (show (.tuple #[pv (gv t L l), .int .i64 (goT t l)] : Value) = .tuple #[pv (gn t L p), .int .i64 (ge t p)] by unfold gn ge; rw [hs])
    have HF := Lib.hid (follow_any w1 N b0 c l.length t L A l (HM.out.keep HB1.out) hb ht (spl_is hs) rfl)
    clear hs ht hc
    go_wp2_with fail
    refine HF.out.mono ?_
    rintro e w' ⟨rfl, rfl⟩
    generalize pv (gv t L l) = z at *
    generalize goT t l = g at *
    go_wp2
    refine bodyPost_ret (v := .tuple #[z, .int .i64 g]) ?_ rfl ⟨by rw [HZ.out], HB1.out⟩
    simp [results, Tryd.results43, go_sem]
  · have HZ := Lib.hid (show (.tuple #[.pointer none, .int .i64 3] : Value) = .tuple #[pv (gn t L p), .int .i64 (ge t p)] by unfold gn ge; rw [hs]; rfl)
    clear hs
    go_wp2
    refine bodyPost_ret (v := .tuple #[.pointer none, .int .i64 3]) ?_ rfl ⟨by rw [HZ.out], HB1.out⟩
    simp [results, Tryd.results43, go_sem]
end Trk
end Go.Proofs.YtkhkcfbacnkcnaaDoor
/- The program's file at a path, directory at a path; a new tree; a text's clone. -/
namespace Go.Proofs.YtkhkcfbacnkcnaaDoor
open Go.RowKit Go.MapKept
namespace Trk
open Tre (Nm Th fi isDirAt dirT goT goF setT dropT fileT)
open Pat (Txs)

/-- a file that is there -/
structure IsFile (t : List Th) (p : ByteArray) (n : Nm) (i : Nat) (s : ByteArray) : Prop where
  spl : Pat.spl p = some n
  ne : n ≠ []
  fi : fi t n = some i
  at' : T t n = some (false, s)
  go : goT t n = 0
  file : fileT t p = (((i : Nat) : Int), 0)
theorem ge_no {t : List Th} {L : Nm → Nd} {p : ByteArray} (h : ge t p ≠ 0) : gn t L p = none ∧ (fileT t p).2 = ge t p := by
  unfold gn
  unfold ge at *
  cases hs : Pat.spl p with
  | none => exact ⟨rfl, by rw [Tre.fileT_none hs]⟩
  | some n =>
    rw [hs] at h
    exact ⟨gv_no h, by rw [Tre.fileT_go hs h]⟩
theorem ge_yes {t : List Th} {L : Nm → Nd} {p : ByteArray} (h : ge t p = 0) : ∃ n v, Pat.spl p = some n ∧ goT t n = 0 ∧ T t n = some v ∧ gn t L p = some (L n).b := by
  unfold gn
  unfold ge at h
  cases hs : Pat.spl p with
  | none => rw [hs] at h; simp at h
  | some n =>
    rw [hs] at h
    obtain ⟨v, hv⟩ := goT_some h
    exact ⟨n, v, rfl, h, hv, gv_yes h⟩
theorem is_file {t : List Th} {p : ByteArray} {n : Nm} {s : ByteArray} (hs : Pat.spl p = some n) (hg : goT t n = 0) (hv : T t n = some (false, s)) : ∃ i, IsFile t p n i s := by
  have h0 : n ≠ [] := fun e => by rw [e, T_root] at hv; cases hv
  obtain ⟨i, hi⟩ := fi_of_T h0 hv
  refine ⟨i, hs, h0, hi, hv, hg, ?_⟩
  unfold Tre.fileT
  rw [hs]
  simp only [hg, ne_eq, not_true, if_false, dirT_T hv, Bool.false_eq_true]
  unfold Tre.fv
  rw [hi]
theorem no_file {t : List Th} {p : ByteArray} {n : Nm} {s : ByteArray} (hs : Pat.spl p = some n) (hg : goT t n = 0) (hv : T t n = some (true, s)) : fileT t p = (-1, 7) := Tre.fileT_dir hs hg (dirT_T hv)

/-- how a file is answered -/
def FileR (t : List Th) (L : Nm → Nd) (p : ByteArray) (e : Ending) : Prop :=
  ((fileT t p).2 ≠ 0 ∧ e = .returned (.tuple #[.pointer none, .int .i64 (fileT t p).2])) ∨ ∃ n i s, IsFile t p n i s ∧ e = .returned (.tuple #[.pointer (some ⟨(L n).b, 0, none⟩), .int .i64 0])

set_option maxRecDepth 100000 in
set_option maxHeartbeats 4000000 in
theorem fileAt_any (w : World) (N b0 : Nat) (t : List Th) (L : Nm → Nd) (p : ByteArray) (hM : Mem w N t L) (hb : (L []).b = b0) (hp : p.size < 4294967281) :
    Calls Tryd.prog 26 #[.pointer (some ⟨b0, 0, none⟩), .string p] w fun e w' => FileR t L p e ∧ Below w.heap.size w w' := by
  have HM := Lib.hid hM
  clear hM
  go_enter Tryd.func26, Tryd.ntmps26
  go_wp2_with fail
  refine (goTo_any w N b0 t L p HM.out hb hp).mono ?_
  rintro e w1 ⟨rfl, hb1⟩
  have HB1 := Lib.hid hb1
  have HM1 := Lib.hid (HM.out.keep hb1)
  clear hb1
  by_cases hg : ge t p = 0
  · obtain ⟨n, ⟨d, s⟩, hs, hn, hv, hx⟩ := ge_yes (L := L) hg
    rw [hx, hg]
    have HD := Lib.hid (HM1.out.nod _ _ _ hv)
    have h0 := HD.out.c0
    unfold pv
    cases d with
    | true =>
      simp only [Bool.not_true] at h0
      have HR := Lib.hid (show FileR t L p (.returned (.tuple #[.pointer none, .int .i64 7])) from .inl (by rw [no_file hs hn hv]; exact ⟨by simp, rfl⟩))
      clear hs hn hv hx hg
      generalize L n = x at *
      go_wp2
      refine bodyPost_ret (v := .tuple #[.pointer none, .int .i64 7]) ?_ rfl ⟨HR.out, HB1.out⟩
      simp [results, Tryd.results26, go_sem]
    | false =>
      simp only [Bool.not_false] at h0
      have HR := Lib.hid (show FileR t L p (.returned (.tuple #[.pointer (some ⟨(L n).b, 0, none⟩), .int .i64 0])) from .inr (by obtain ⟨i, hi⟩ := is_file hs hn hv; exact ⟨n, i, s, hi, rfl⟩))
      clear hs hn hv hx hg
      generalize L n = x at *
      go_wp2
      refine bodyPost_ret (v := .tuple #[.pointer (some ⟨x.b, 0, none⟩), .int .i64 0]) ?_ rfl ⟨HR.out, HB1.out⟩
      simp [results, Tryd.results26, go_sem]
  · obtain ⟨hx, he⟩ := ge_no (L := L) hg
    have HR := Lib.hid (show FileR t L p (.returned (.tuple #[.pointer none, .int .i64 (ge t p)])) from .inl ⟨by rw [he]; exact hg, by rw [he]⟩)
    rw [hx]
    unfold pv
    clear hx he
    generalize ge t p = g at *
    go_wp2
    refine bodyPost_ret (v := .tuple #[.pointer none, .int .i64 g]) ?_ rfl ⟨HR.out, HB1.out⟩
    simp [results, Tryd.results26, go_sem]

/-- a directory that is there -/
structure IsDir (t : List Th) (p : ByteArray) (n : Nm) (s : ByteArray) : Prop where
  spl : Pat.spl p = some n
  at' : T t n = some (true, s)
  go : goT t n = 0
  dir : dirT t n = true
/-- the error of a directory -/
def dirE (t : List Th) (p : ByteArray) : Int := match Pat.spl p with | none => 3 | some n => if goT t n ≠ 0 then goT t n else if dirT t n = false then 6 else 0
def DirR (t : List Th) (L : Nm → Nd) (p : ByteArray) (e : Ending) : Prop :=
  (dirE t p ≠ 0 ∧ e = .returned (.tuple #[.pointer none, .int .i64 (dirE t p)])) ∨ ∃ n s, IsDir t p n s ∧ e = .returned (.tuple #[.pointer (some ⟨(L n).b, 0, none⟩), .int .i64 0])
theorem ge_dir {t : List Th} {p : ByteArray} (h : ge t p ≠ 0) : dirE t p = ge t p := by
  unfold ge at *
  unfold dirE
  cases hs : Pat.spl p with
  | none => rfl
  | some n =>
    rw [hs] at h
    exact if_pos h

set_option maxRecDepth 100000 in
set_option maxHeartbeats 4000000 in
theorem dirAt_any (w : World) (N b0 : Nat) (t : List Th) (L : Nm → Nd) (p : ByteArray) (hM : Mem w N t L) (hb : (L []).b = b0) (hp : p.size < 4294967281) :
    Calls Tryd.prog 28 #[.pointer (some ⟨b0, 0, none⟩), .string p] w fun e w' => DirR t L p e ∧ Below w.heap.size w w' := by
  have HM := Lib.hid hM
  clear hM
  go_enter Tryd.func28, Tryd.ntmps28
  go_wp2_with fail
  refine (goTo_any w N b0 t L p HM.out hb hp).mono ?_
  rintro e w1 ⟨rfl, hb1⟩
  have HB1 := Lib.hid hb1
  have HM1 := Lib.hid (HM.out.keep hb1)
  clear hb1
  by_cases hg : ge t p = 0
  · obtain ⟨n, ⟨d, s⟩, hs, hn, hv, hx⟩ := ge_yes (L := L) hg
    rw [hx, hg]
    have HD := Lib.hid (HM1.out.nod _ _ _ hv)
    have h0 := HD.out.c0
    unfold pv
    cases d with
    | false =>
      simp only [Bool.not_false] at h0
      have HR := Lib.hid (show DirR t L p (.returned (.tuple #[.pointer none, .int .i64 6])) from .inl (by
        have : dirE t p = 6 := by unfold dirE; rw [hs]; simp only [hn, ne_eq, not_true, if_false, dirT_T hv, if_true]
        rw [this]; exact ⟨by simp, rfl⟩))
      clear hs hn hv hx hg
      generalize L n = x at *
      go_wp2
      refine bodyPost_ret (v := .tuple #[.pointer none, .int .i64 6]) ?_ rfl ⟨HR.out, HB1.out⟩
      simp [results, Tryd.results28, go_sem]
    | true =>
      simp only [Bool.not_true] at h0
      have HR := Lib.hid (show DirR t L p (.returned (.tuple #[.pointer (some ⟨(L n).b, 0, none⟩), .int .i64 0])) from .inr ⟨n, s, ⟨hs, hv, hn, dirT_T hv⟩, rfl⟩)
      clear hs hn hv hx hg
      generalize L n = x at *
      go_wp2
      refine bodyPost_ret (v := .tuple #[.pointer (some ⟨x.b, 0, none⟩), .int .i64 0]) ?_ rfl ⟨HR.out, HB1.out⟩
      simp [results, Tryd.results28, go_sem]
  · obtain ⟨hx, _⟩ := ge_no (L := L) hg
    have he := ge_dir hg
    have HR := Lib.hid (show DirR t L p (.returned (.tuple #[.pointer none, .int .i64 (ge t p)])) from .inl ⟨by rw [he]; exact hg, by rw [he]⟩)
    rw [hx]
    unfold pv
    clear hx he
    generalize ge t p = g at *
    go_wp2
    refine bodyPost_ret (v := .tuple #[.pointer none, .int .i64 g]) ?_ rfl ⟨HR.out, HB1.out⟩
    simp [results, Tryd.results28, go_sem]

theorem clone_any (w : World) (s : ByteArray) (hs : s.size ≤ 1000000) : Calls Tryd.prog 42 #[.string s] w fun e w' => e = .returned (.string s) ∧ Below w.heap.size w w' := by
  go_enter Tryd.func42, Tryd.ntmps42
  go_wp2_with fail
  refine (Any.stringslite_Clone Tryd.cloneA s w (by omega)).mono ?_
  rintro e w' ⟨rfl, hb⟩
  have HB := Lib.hid hb
  clear hb
  go_wp2
  go_ret
  exact ⟨rfl, HB.out⟩

/-- an empty tree's root -/
def L0 (b : Nat) : Nm → Nd := fun _ => ⟨b, none, 0, none⟩
theorem T_nil (n : Nm) : T [] n = if n = [] then some (true, ByteArray.empty) else none := rfl
theorem mem_new {w : World} {b : Nat} {ty : TypeId} (h : w.heap[b]? = some (.cells #[.bool false, .slice none 0 0, .map none] ty (0, 0))) : Mem w 0 [] (L0 b) := by
  have hT : ∀ {p : Nm} {v}, T [] p = some v → p = [] ∧ v = (true, ByteArray.empty) := fun {p v} e => by
    rw [T_nil] at e
    split at e
    · rename_i h0
      injection e with e
      exact ⟨h0, e.symm⟩
    · cases e
  refine ⟨fun p d s e => ?_, fun p v e => by simp [own, L0], fun p q v u ep eq hne => absurd ((hT ep).1.trans (hT eq).1.symm) hne⟩
  obtain ⟨rfl, e2⟩ := hT e
  injection e2 with e2 e3
  subst e2 e3
  exact ⟨⟨ty, h⟩, ⟨rfl, .inl ⟨rfl, rfl⟩⟩, fun x => by unfold kb; rw [T_nil]; simp⟩
theorem wf_nil : Wf [] := by
  refine ⟨List.nodup_nil, fun x h => by simp at h, fun p x v h => ?_, fun p s h => ?_, fun x h => by simp at h⟩
  · rw [T_nil] at h
    simp at h
  · rw [T_nil] at h
    split at h
    · simp at h
      exact h.symm
    · cases h
set_option maxRecDepth 100000 in
theorem new_any (w : World) : Calls Tryd.prog 11 #[] w fun e w' => e = .returned (.pointer (some ⟨w.heap.size, 0, none⟩)) ∧ Mem w' 0 [] (L0 w.heap.size) ∧ Below w.heap.size w w' ∧ w'.heap.size = w.heap.size + 1 := by
  go_enter Tryd.func11, Tryd.ntmps11
  go_wp2
  go_ret
  exact ⟨rfl, mem_new (heap_alloc_new w _), (Below.refl _ _).alloc (Nat.le_refl _) _, by simp⟩
end Trk
end Go.Proofs.YtkhkcfbacnkcnaaDoor
/- The program's put: a directory gets one name more. -/
namespace Go.Proofs.YtkhkcfbacnkcnaaDoor
open Go.RowKit Go.MapKept
namespace Trk
open Tre (Nm Th fi isDirAt dirT goT goF setT dropT fileT)
open Pat (Txs)

/-- how a name more is left -/
def PutR (w : World) (N : Nat) (x : Nd) (f : ByteArray → Option Nat) (d : Bool) (s : ByteArray) (nm : ByteArray) (nb : Nat) (w' : World) : Prop :=
  ∃ g, (x.m = some g ∨ g = w.heap.size) ∧ Nod w' (N + 1) ⟨x.b, x.A, x.c, some g⟩ (fun z => if z = nm then some nb else f z) d s ∧ Chg (· ∈ own x) w w'

set_option maxRecDepth 100000 in
set_option maxHeartbeats 4000000 in
theorem tput_any (w : World) (N : Nat) (x : Nd) (f : ByteArray → Option Nat) (d : Bool) (s nm : ByteArray) (nb : Nat) (h : Nod w N x f d s) (h1 : (own x).Nodup) (hs : nm.size ≤ maxLen) (hN : N ≤ 1000000) :
    Calls Tryd.prog 41 #[.pointer (some ⟨x.b, 0, none⟩), .string nm, .pointer (some ⟨nb, 0, none⟩)] w fun e w' => e = .returned (.tuple #[]) ∧ PutR w N x f d s nm nb w' := by
  have H := Lib.hid h
  have h2 := h.c2
  have hfr := h.fr 2
  have hnil : ∀ W r, (binOp .eql 43 (.map r) (.map none)).run Tryd.prog W = .ok (.bool r.isNone) W := fun W r => run_eql_map_nil W _ _ _ r Tryd.underlying43
  have hmk : ∀ W, (Instr.makeMap 43 none).run Tryd.prog W = .ok (.map (some W.heap.size)) (W.alloc (.map #[] 0)) := fun W => by
    exact run_makeMap _ W
  have hlt := h.blt
  clear h
  cases hm : x.m with
  | none =>
    rw [hm] at h2
    have hk := H.out.map
    rw [hm] at hk
    have hsz0 : (w.setCell ⟨x.b, 2, none⟩ (.map (some w.heap.size))).heap.size = w.heap.size := by simp [World.setCell]
    have hA0 : Ask ((w.setCell ⟨x.b, 2, none⟩ (.map (some w.heap.size))).alloc (.map #[] 0)) w.heap.size N f (.map []) := by
      have := ask_made (w.setCell ⟨x.b, 2, none⟩ (.map (some w.heap.size)))
      rw [hsz0] at this
      exact ⟨this.own.mono (Nat.zero_le _), fun z hz => by rw [this.ask z hz, hk z], fun z _ => this.non z rfl⟩
    obtain ⟨w', D', hrun, hA, hg⟩ := hA0.store nm hs nb hN
    have HP := Lib.hid (show PutR w N x f d s nm nb w' from by
      obtain ⟨ty, hbox⟩ := H.out.box
      have hw1 := heap_setCell_same _ _ 2 _ _ (.map (some w.heap.size)) hbox
      have hw2 := (Below.heap_alloc _ (.map #[] 0) x.b (by omega)).trans hw1
      have hsz : ((w.setCell ⟨x.b, 2, none⟩ (.map (some w.heap.size))).alloc (.map #[] 0)).heap.size = w.heap.size + 1 := by simp [World.setCell]
      have hoth : ∀ k, k < w.heap.size → k ≠ x.b → w'.heap[k]? = w.heap[k]? := fun k hk' hne =>
        (hg.block k (by omega) (fun e => by injection e with e; omega)).trans ((Below.heap_alloc _ _ k (by omega)).trans (Below.heap_setCell _ _ _ k hne))
      refine ⟨w.heap.size, .inr rfl, ⟨⟨ty, ?_⟩, ?_, ⟨D', hA⟩⟩, ⟨hg.os, hg.tape, hg.output, by have := hg.size; omega, fun k hk' hne => hoth k hk' (fun e => hne (by simp [own, e]))⟩⟩
      · exact (hg.block x.b (by omega) (fun e => by injection e with e; omega)).trans hw2
      · rcases H.out.row with ⟨r1, r2⟩
        refine ⟨r1, ?_⟩
        rcases r2 with r0 | ⟨q, cap, cur, e, hB, hh, hr⟩
        · exact .inl r0
        · have hA' : x.A = some ⟨q, 0, none⟩ := by injection e
          have hq : q ≠ x.b := fun e' => by
            rw [own, hA', e'] at h1
            simp at h1
          exact .inr ⟨q, cap, cur, e, hB, (hoth q (Array.getElem?_eq_some_iff.1 hh).1 hq).trans hh, hr⟩)
    clear hA0 hA hg hk
    go_enter Tryd.func41, Tryd.ntmps41
    go_wp2
    go_end0
    exact ⟨rfl, HP.out⟩
  | some g =>
    rw [hm] at h2
    have hk := H.out.map
    rw [hm] at hk
    obtain ⟨D, hD⟩ := hk
    obtain ⟨w', D', hrun, hA, hg⟩ := hD.store nm hs nb hN
    have HP := Lib.hid (show PutR w N x f d s nm nb w' from by
      obtain ⟨ty, hbox⟩ := H.out.box
      have hgx : x.b ≠ g := fun e => by rw [own, hm, e] at h1; simp at h1
      refine ⟨g, .inl hm, ⟨⟨ty, ?_⟩, ?_, ⟨D', hA⟩⟩, Chg.grown hg (by simp [own, hm])⟩
      · rw [← hm]
        exact (hg.block x.b hlt (fun e => hgx (by injection e))).trans hbox
      · refine H.out.row.kept hg ?_
        cases hA : x.A with
        | none => exact .inl rfl
        | some a =>
          refine .inr (fun e => ?_)
          have : a.block = g := by simpa [Value.ownBlock] using e
          rw [own, hm, hA] at h1
          simp [this] at h1)
    clear hD hA hg
    go_enter Tryd.func41, Tryd.ntmps41
    go_wp2
    go_end0
    exact ⟨rfl, HP.out⟩
end Trk
end Go.Proofs.YtkhkcfbacnkcnaaDoor
/- The program's put at a path; a new file, a new directory. -/
namespace Go.Proofs.YtkhkcfbacnkcnaaDoor
open Go.RowKit Go.MapKept
namespace Trk
open Tre (Nm Th fi isDirAt dirT goT goF setT dropT fileT addT)
open Pat (Txs)

theorem app_ne {p q : Nm} {x y : ByteArray} (h : q ≠ p) : q ++ [x] ≠ p ++ [y] := fun e => h (List.append_inj' e rfl).1
theorem app_inj {p : Nm} {x y : ByteArray} (h : p ++ [x] = p ++ [y]) : x = y := by
  have := (List.append_inj' h rfl).2
  injection this
theorem app_self {p : Nm} {x : ByteArray} : p ++ [x] ≠ p := fun e => by
  have := congrArg List.length e
  simp at this
/-- where the things lie, one more -/
def La (L : Nm → Nd) (p : Nm) (nm : ByteArray) (nb g : Nat) (q : Nm) : Nd := if q = p ++ [nm] then ⟨nb, none, 0, none⟩ else if q = p then ⟨(L p).b, (L p).A, (L p).c, some g⟩ else L q
section
variable {L : Nm → Nd} {p : Nm} {nm : ByteArray} {nb g : Nat}
theorem La_new : La L p nm nb g (p ++ [nm]) = ⟨nb, none, 0, none⟩ := if_pos rfl
theorem La_up : La L p nm nb g p = ⟨(L p).b, (L p).A, (L p).c, some g⟩ := by
  unfold La
  rw [if_neg (fun e => app_self e.symm), if_pos rfl]
theorem La_other {q : Nm} (h : q ≠ p ++ [nm]) (h' : q ≠ p) : La L p nm nb g q = L q := by
  unfold La
  rw [if_neg h, if_neg h']
theorem La_b {q : Nm} (h : q ≠ p ++ [nm]) : (La L p nm nb g q).b = (L q).b := by
  unfold La
  rw [if_neg h]
  split
  · rename_i e
    rw [e]
  · rfl
end
theorem own_mem {x : Nd} {i : Nat} : i ∈ own x ↔ i = x.b ∨ x.m = some i ∨ x.A.map (·.block) = some i := by
  simp [own]
theorem Mem.add {w w' : World} {N : Nat} {t : List Th} {L : Nm → Nd} (h : Mem w N t L) (hW : Wf t) {p : Nm} {nm : ByteArray} {s : ByteArray} {nb : Nat} {d : Bool} {ty : TypeId} (hp : T t p = some (true, s)) (hn : T t (p ++ [nm]) = none)
    (hnb : w.heap[nb]? = some (.cells #[.bool (!d), .slice none 0 0, .map none] ty (0, 0))) (hF : ¬ Fp t L nb) (hr : PutR w N (L p) (kb t L p) true s nm nb w') :
    ∃ g, (Fp t L g ∨ g = w.heap.size) ∧ Mem w' (N + 1) (t ++ [(p ++ [nm], d, ByteArray.empty)]) (La L p nm nb g) ∧ Chg (Fp t L) w w' := by
  obtain ⟨g, hg, hN, hc⟩ := hr
  have hlt := (Array.getElem?_eq_some_iff.1 hnb).1
  have hFp : ∀ i ∈ own (L p), Fp t L i := fun i hi => ⟨p, _, hp, hi⟩
  have hgF : Fp t L g ∨ g = w.heap.size := by
    rcases hg with hg | hg
    · exact .inl (hFp g (own_mem.2 (.inr (.inl hg))))
    · exact .inr hg
  refine ⟨g, hgF, ?_, ⟨hc.os, hc.tape, hc.output, hc.size, fun k hk hn => hc.block k hk (fun e => hn (hFp k e))⟩⟩
  obtain ⟨hne, hfi⟩ := T_no hn
  have hT : ∀ q, T (t ++ [(p ++ [nm], d, ByteArray.empty)]) q = if q = p ++ [nm] then some (d, ByteArray.empty) else T t q := T_app (x := (p ++ [nm], d, ByteArray.empty)) hne hfi
  have hkid : ∀ x, T t (p ++ [nm] ++ [x]) = none := fun x => by
    cases hv : T t (p ++ [nm] ++ [x]) with
    | none => rfl
    | some v =>
      obtain ⟨s', hs'⟩ := hW.up _ _ _ hv
      rw [hn] at hs'
      cases hs'
  have hown : ∀ i, i ∈ own (La L p nm nb g p) → i ∈ own (L p) ∨ i = w.heap.size := fun i hi => by
    rw [La_up, own_mem] at hi
    simp only [Option.some.injEq] at hi
    rcases hi with hi | hi | hi
    · exact .inl (own_mem.2 (.inl hi))
    · rcases hg with hg | hg
      · exact .inl (own_mem.2 (.inr (.inl (hi ▸ hg))))
      · exact .inr (by omega)
    · exact .inl (own_mem.2 (.inr (.inr hi)))
  refine h.step (fun q => q = p ++ [nm] ∨ q = p) (Nat.le_succ N) (fun q hq => ?_) (fun q hq => ?_) (fun q v hv hq i hi => ?_) (fun q x v hv hq => ?_) (fun q d' s' hq hv => ?_) (fun q v hq hv => ?_) (fun q r v u hq hv hu hne' i hi => ?_)
  · rw [hT, if_neg (fun e => hq (.inl e))]
  · exact La_other (fun e => hq (.inl e)) (fun e => hq (.inr e))
  · exact hc.block i (h.lt ⟨q, v, hv, hi⟩) (fun e => h.apart q p v _ hv hp (fun e => hq (.inr e)) i hi e)
  · unfold kb
    rw [hT, if_neg (app_ne (fun e => hq (.inr e))), La_b (app_ne (fun e => hq (.inr e)))]
  · rcases hq with rfl | rfl
    · rw [hT, if_pos rfl] at hv
      injection hv with hv
      injection hv with h1 h2
      subst h1 h2
      rw [La_new]
      refine ⟨⟨ty, (hc.block nb hlt (fun e => hF (hFp _ e))).trans hnb⟩, ⟨rfl, .inl ⟨rfl, rfl⟩⟩, fun x => ?_⟩
      unfold kb
      rw [hT, if_neg app_self, hkid]
      rfl
    · rw [hT, if_neg (fun e => app_self e.symm), hp] at hv
      injection hv with hv
      injection hv with h1 h2
      subst h1 h2
      rw [La_up]
      refine ⟨hN.box, hN.row, hN.map.congr fun x => ?_⟩
      unfold kb
      rw [hT]
      by_cases e : x = nm
      · subst e
        rw [if_pos rfl, if_pos rfl, La_new]
        rfl
      · rw [if_neg e, if_neg (fun e' => e (app_inj e')), La_b (fun e' => e (app_inj e'))]
  · rcases hq with rfl | rfl
    · rw [La_new]
      simp [own]
    · rw [La_up]
      have ho := h.one _ _ hp
      rcases hg with hg | hg
      · have : (⟨(L q).b, (L q).A, (L q).c, some g⟩ : Nd) = L q := by rw [← hg]
        rw [this]
        exact ho
      · have hb : (L q).b < w.heap.size := h.lt ⟨q, _, hp, own_mem.2 (.inl rfl)⟩
        have hA : ∀ a, (L q).A = some a → a.block < w.heap.size := fun a e => h.lt ⟨q, _, hp, own_mem.2 (.inr (.inr (by rw [e]; rfl)))⟩
        unfold own at ho ⊢
        cases hA' : (L q).A with
        | none => simp; omega
        | some a =>
          have := hA a hA'
          rw [hA'] at ho
          simp at ho ⊢
          exact ⟨⟨by omega, ho.1.2⟩, by omega⟩
  · rcases hq with rfl | rfl
    · rw [La_new] at hi
      have hi : i = nb := by simpa [own] using hi
      subst hi
      rw [hT, if_neg hne'] at hu
      by_cases e : r = p
      · subst e
        intro hi'
        rcases hown _ hi' with h1 | h1
        · exact hF (hFp _ h1)
        · omega
      · rw [La_other hne' e]
        exact fun h1 => hF ⟨r, u, hu, h1⟩
    · intro hi'
      by_cases e : r = q ++ [nm]
      · subst e
        rw [La_new] at hi'
        have hi' : i = nb := by simpa [own] using hi'
        subst hi'
        rcases hown _ hi with h1 | h1
        · exact hF (hFp _ h1)
        · omega
      · rw [hT, if_neg e] at hu
        rw [La_other e hne'] at hi'
        rcases hown _ hi with h1 | h1
        · exact h.apart q r _ u hp hu (fun e => hne' e.symm) i h1 hi'
        · have := h.lt ⟨r, u, hu, hi'⟩
          omega
theorem Mem.mono {w : World} {N N' : Nat} {t : List Th} {L : Nm → Nd} (h : Mem w N t L) (hN : N ≤ N') : Mem w N' t L :=
  ⟨fun p d s e => ⟨(h.nod p d s e).box, (h.nod p d s e).row, (h.nod p d s e).map.mono hN⟩, h.one, h.apart⟩
end Trk
end Go.Proofs.YtkhkcfbacnkcnaaDoor
/- The program's put at a path; a new file, a new directory. -/
namespace Go.Proofs.YtkhkcfbacnkcnaaDoor
open Go.RowKit Go.MapKept
namespace Trk
open Tre (Nm Th fi isDirAt dirT goT goF setT dropT fileT addT)
open Pat (Txs)

/-- a tree as a deed leaves it -/
def TrkR (w : World) (N : Nat) (t : List Th) (L : Nm → Nd) (t' : List Th) (w' : World) : Prop :=
  Chg (Fp t L) w w' ∧ ∃ L', Mem w' (N + 1) t' L' ∧ (L' []).b = (L []).b ∧ ∀ i, Fp t' L' i → Fp t L i ∨ w.heap.size ≤ i
theorem TrkR.same {w w' : World} {N : Nat} {t : List Th} {L : Nm → Nd} (h : Mem w N t L) (hb : Below w.heap.size w w') : TrkR w N t L t w' :=
  ⟨Chg.of_below hb, L, (h.keep hb).mono (Nat.le_succ N), rfl, fun _ hi => .inl hi⟩
theorem TrkR.after {w w1 w' : World} {N : Nat} {t t' : List Th} {L : Nm → Nd} (hb : Below w.heap.size w w1) (h : TrkR w1 N t L t' w') : TrkR w N t L t' w' := by
  obtain ⟨h1, L', h2, h3, h4⟩ := h
  exact ⟨Chg.after hb h1, L', h2, h3, fun i hi => (h4 i hi).imp id (fun e => Nat.le_trans hb.size e)⟩
/-- a deed that is left behind a new block -/
def PutsR (w : World) (N : Nat) (t : List Th) (L : Nm → Nd) (nb : Nat) (t' : List Th) (w' : World) : Prop :=
  Chg (Fp t L) w w' ∧ ∃ L', Mem w' (N + 1) t' L' ∧ (L' []).b = (L []).b ∧ ∀ i, Fp t' L' i → Fp t L i ∨ i = nb ∨ w.heap.size ≤ i
theorem PutsR.same {w w' : World} {N nb : Nat} {t : List Th} {L : Nm → Nd} (h : Mem w N t L) (hb : Below w.heap.size w w') : PutsR w N t L nb t w' :=
  ⟨Chg.of_below hb, L, (h.keep hb).mono (Nat.le_succ N), rfl, fun _ hi => .inl hi⟩
theorem fp_add {w : World} {t : List Th} {L : Nm → Nd} {p : Nm} {nm : ByteArray} {nb g : Nat} {d : Bool} {s : ByteArray} (hp : T t p = some (true, s)) (hn : T t (p ++ [nm]) = none) (hg : Fp t L g ∨ g = w.heap.size) :
    ∀ i, Fp (t ++ [(p ++ [nm], d, ByteArray.empty)]) (La L p nm nb g) i → Fp t L i ∨ i = nb ∨ w.heap.size ≤ i := by
  rintro i ⟨q, v, hv, hi⟩
  obtain ⟨hne, hfi⟩ := T_no hn
  rw [T_app (x := (p ++ [nm], d, ByteArray.empty)) hne hfi] at hv
  by_cases e : q = p ++ [nm]
  · subst e
    rw [La_new] at hi
    exact .inr (.inl (by simpa [own] using hi))
  · rw [if_neg e] at hv
    by_cases e' : q = p
    · subst e'
      rw [La_up, own_mem] at hi
      simp only [Option.some.injEq] at hi
      rcases hi with hi | hi | hi
      · exact .inl ⟨q, _, hp, own_mem.2 (.inl hi)⟩
      · subst hi
        exact hg.imp id (fun e => .inr (by omega))
      · exact .inl ⟨q, _, hp, own_mem.2 (.inr (.inr hi))⟩
    · rw [La_other e e'] at hi
      exact .inl ⟨q, v, hv, hi⟩

set_option maxRecDepth 100000 in
set_option maxHeartbeats 1000000 in
theorem put_any (w : World) (N b0 nb : Nat) (t : List Th) (L : Nm → Nd) (p : ByteArray) (d : Bool) (ty : TypeId) (hM : Mem w N t L) (hb : (L []).b = b0) (hW : Wf t) (hp : p.size < 4294967281) (hN : N ≤ 1000000)
    (hnb : w.heap[nb]? = some (.cells #[.bool (!d), .slice none 0 0, .map none] ty (0, 0))) (hF : ¬ Fp t L nb) :
    Calls Tryd.prog 25 #[.pointer (some ⟨b0, 0, none⟩), .string p, .pointer (some ⟨nb, 0, none⟩)] w fun e w' => e = .returned (.int .i64 (addT t p d).2) ∧ PutsR w N t L nb (addT t p d).1 w' := by
  have HM := Lib.hid hM
  have hlt := (Array.getElem?_eq_some_iff.1 hnb).1
  have HNB := Lib.hid hnb
  have HL := Lib.hid hlt
  have HF := Lib.hid hF
  clear hM hnb hF hlt
  go_enter Tryd.func25, Tryd.ntmps25
  go_wp2_with fail
  refine (Pat.split_any w p hp).mono ?_
  rintro e w1 ⟨hb1, h1⟩
  have HB1 := Lib.hid hb1
  have HM1 := Lib.hid (HM.out.keep hb1)
  clear hb1
  rcases h1 with ⟨l, A, c, hs, rfl, hc, ht⟩ | ⟨hs, rfl⟩
  · have HS := Lib.hid hs
    have HC := Lib.hid hc
    have HI := Lib.hid (spl_is hs)
    have HT := Lib.hid ht
    clear hs ht hc
    rcases List.eq_nil_or_concat l with rfl | ⟨m, s, rfl⟩
    · have HZ := Lib.hid (Tre.addT_root (t := t) (d := d) HS.out)
      simp only [List.length_nil]
      go_wp2_with fail
      refine (Pat.parent_no w1 A c).mono ?_
      rintro e w2 ⟨rfl, rfl⟩
      go_wp2
      refine bodyPost_ret (v := .int .i64 5) ?_ rfl ⟨by rw [HZ.out], by rw [HZ.out]; exact PutsR.same HM.out HB1.out⟩
      simp [results, Tryd.results25, go_sem]
    · rw [List.concat_eq_append] at *
      have hk : (m ++ [s]).take ((m ++ [s]).length - 1) = m := by simp
      have hne : m ++ [s] ≠ [] := by simp
      have HIm := Lib.hid (show Pat.IsNames m from ⟨by have := HI.out.1; simp at this; omega, fun z hz => HI.out.2 z (by simp [hz])⟩)
      have hss := right_len (HI.out.2 s (by simp))
      have hss2 : s.size ≤ 1000000 := by
        have := (HI.out.2 s (by simp)).1.2
        rw [Crc.tx_len] at this
        omega
      have hml : m.length ≤ 1000000 := by have := HIm.out.1; omega
      have HG := Lib.hid (fun h => hk ▸ Tre.addT_go (t := t) (d := d) HS.out hne (hk.symm ▸ h))
      obtain ⟨n, hn⟩ : ∃ n, n = (m ++ [s]).length := ⟨_, rfl⟩
      rw [← hn]
      have hn' : n = m.length + 1 := by rw [hn]; simp
      obtain ⟨k, hk'⟩ : ∃ k, k = m.length := ⟨_, rfl⟩
      rw [← hk'] at hn' hml
      have HPAR := Lib.hid (Pat.parent_yes w1 A c n k m s HT.out hk'.symm hn' hml)
      have HKL := Lib.hid hk'
      clear hn hn' hk'
      go_wp2_with fail
      refine HPAR.out.mono ?_
      rintro e w2 ⟨g, rfl, _, ho, hb2⟩
      have HB2 := Lib.hid (HB1.out.trans (hb2.mono HB1.out.size))
      have HM2 := Lib.hid (HM.out.keep HB2.out)
      have HO := Lib.hid (Pat.Own.txs ho (fun z hz => by have := (HIm.out.2 z hz).1.2; rw [Crc.tx_len] at this; omega) (by have := HKL.out; omega))
      have HFOL := Lib.hid (follow_any w2 N b0 k k t L (some ⟨g, 0, none⟩) m HM2.out hb HO.out HIm.out HKL.out.symm)
      clear ho hb2 HT HC HPAR
      go_wp2_with fail
      refine HFOL.out.mono ?_
      rintro e w3 ⟨rfl, rfl⟩
      by_cases hg : goT t m = 0
      · obtain ⟨⟨d', s'⟩, hv⟩ := goT_some hg
        have HGO := Lib.hid (hk.symm ▸ hg : goT t ((m ++ [s]).take ((m ++ [s]).length - 1)) = 0)
        rw [gv_yes hg, hg]
        have HD := Lib.hid (HM2.out.nod _ _ _ hv)
        have h0 := HD.out.c0
        have h2 := HD.out.c2
        have HV := Lib.hid hv
        have HDI := Lib.hid (hk.symm ▸ dirT_T hv : dirT t ((m ++ [s]).take ((m ++ [s]).length - 1)) = d')
        have hlk := HD.out.look s hss
        unfold pv
        clear hv hg HG
        cases d' with
        | false =>
          simp only [Bool.not_false] at h0
          have HZ := Lib.hid (Tre.addT_file (t := t) (d := d) HS.out hne HGO.out HDI.out)
          clear hlk
          generalize hx : L m = x at *
          go_wp2
          refine bodyPost_ret (v := .int .i64 6) ?_ rfl ⟨by rw [HZ.out], by rw [HZ.out]; exact PutsR.same HM.out HB2.out⟩
          simp [results, Tryd.results25, go_sem]
        | true =>
          simp only [Bool.not_true] at h0
          unfold kb at hlk
          cases hv' : T t (m ++ [s]) with
          | some u =>
            rw [hv'] at hlk
            simp only [Option.map_some, pv] at hlk
            obtain ⟨i, hi⟩ := fi_of_T hne hv'
            have HZ := Lib.hid (Tre.addT_there (t := t) (d := d) HS.out hne HGO.out HDI.out hi)
            clear hv' hi
            generalize hx : L m = x at *
            generalize hy : L (m ++ [s]) = y at *
            go_wp2
            refine bodyPost_ret (v := .int .i64 5) ?_ rfl ⟨by rw [HZ.out], by rw [HZ.out]; exact PutsR.same HM.out HB2.out⟩
            simp [results, Tryd.results25, go_sem]
          | none =>
            rw [hv'] at hlk
            simp only [Option.map_none, pv] at hlk
            have HZ := Lib.hid (Tre.addT_yes (t := t) (d := d) HS.out hne HGO.out HDI.out (T_no hv').2)
            have HVN := Lib.hid hv'
            have HCL := Lib.hid (clone_any w3 s hss2)
            clear hv'
            generalize hx : L m = x at *
            go_wp2_with fail
            refine HCL.out.mono ?_
            rintro e w5 ⟨rfl, hb3⟩
            have HB3 := Lib.hid (HB2.out.trans (hb3.mono HB2.out.size))
            have HM3 := Lib.hid (HM.out.keep HB3.out)
            have HPT := Lib.hid (tput_any w5 N x (kb t L m) true s' s nb (HD.out.block fun i hi => hb3.block i (HD.out.lt i hi)) (hx ▸ HM.out.one _ _ HV.out) hss hN)
            clear hb3
            go_wp2_with fail
            refine HPT.out.mono ?_
            rintro e w4 ⟨rfl, hr⟩
            have HR := Lib.hid (show PutsR w N t L nb (t ++ [(m ++ [s], d, ByteArray.empty)]) w4 from by
              rw [← hx] at hr
              obtain ⟨g', hg', hm4, hc4⟩ := HM3.out.add hW HV.out HVN.out (d := d) (ty := ty) ((HB3.out.block nb HL.out).trans HNB.out) HF.out hr
              refine ⟨Chg.after HB3.out hc4, _, hm4, La_b (by simp), fun i hi => ?_⟩
              rcases fp_add HV.out HVN.out hg' i hi with h | h | h
              · exact .inl h
              · exact .inr (.inl h)
              · exact .inr (.inr (Nat.le_trans HB3.out.size h)))
            clear hr
            go_wp2
            refine bodyPost_ret (v := .int .i64 0) ?_ rfl ⟨by rw [HZ.out], by rw [HZ.out]; exact HR.out⟩
            simp [results, Tryd.results25, go_sem]
      · have HZ := Lib.hid (HG.out hg)
        rw [gv_no hg]
        unfold pv
        clear HG
        generalize goT t m = g at *
        go_wp2
        refine bodyPost_ret (v := .int .i64 g) ?_ rfl ⟨by rw [HZ.out], by rw [HZ.out]; exact PutsR.same HM.out HB2.out⟩
        simp [results, Tryd.results25, go_sem]
  · have HZ := Lib.hid (Tre.addT_none (t := t) (d := d) hs)
    clear hs
    go_wp2
    refine bodyPost_ret (v := .int .i64 3) ?_ rfl ⟨by rw [HZ.out], by rw [HZ.out]; exact PutsR.same HM.out HB1.out⟩
    simp [results, Tryd.results25, go_sem]

/-- with a new thing ahead of it -/
theorem PutsR.trk {w w1 w' : World} {N nb : Nat} {t t' : List Th} {L : Nm → Nd} (hb : Below w.heap.size w w1) (hn : w.heap.size ≤ nb) (h : PutsR w1 N t L nb t' w') : TrkR w N t L t' w' := by
  obtain ⟨h1, L', h2, h3, h4⟩ := h
  refine ⟨Chg.after hb h1, L', h2, h3, fun i hi => ?_⟩
  rcases h4 i hi with h | h | h
  · exact .inl h
  · exact .inr (h ▸ hn)
  · exact .inr (Nat.le_trans hb.size h)
section
variable (w : World) (N b0 : Nat) (t : List Th) (L : Nm → Nd) (p : ByteArray) (hM : Mem w N t L) (hb : (L []).b = b0) (hW : Wf t) (hp : p.size < 4294967281) (hN : N ≤ 1000000)
include hM hb hW hp hN
set_option maxRecDepth 100000 in
set_option maxHeartbeats 1000000 in
theorem create_any : Calls Tryd.prog 18 #[.pointer (some ⟨b0, 0, none⟩), .string p] w fun e w' => e = .returned (.int .i64 (addT t p false).2) ∧ TrkR w N t L (addT t p false).1 w' := by
  have hb1 := (Below.refl w.heap.size w).alloc (Nat.le_refl _) (.cells #[.bool true, .slice none 0 0, .map none] 45)
  have HM := Lib.hid hM
  have HB1 := Lib.hid hb1
  have HP := Lib.hid (put_any _ N b0 w.heap.size t L p false 45 (HM.out.keep hb1) hb hW hp hN (heap_alloc_new w _) (fun h => by have := HM.out.lt h; omega))
  clear hM hb1
  go_enter Tryd.func18, Tryd.ntmps18
  go_wp2_with fail
  refine HP.out.mono ?_
  rintro e w1 ⟨rfl, h1⟩
  have HR := Lib.hid (PutsR.trk HB1.out (Nat.le_refl _) h1)
  clear h1
  generalize hg : (addT t p false).2 = g
  have HG := Lib.hid hg
  clear hg
  go_wp2
  refine bodyPost_ret (v := .int .i64 g) ?_ rfl ⟨by rw [HG.out], HR.out⟩
  simp [results, Tryd.results18, go_sem]
set_option maxRecDepth 100000 in
set_option maxHeartbeats 1000000 in
theorem mkdir_any : Calls Tryd.prog 17 #[.pointer (some ⟨b0, 0, none⟩), .string p] w fun e w' => e = .returned (.int .i64 (addT t p true).2) ∧ TrkR w N t L (addT t p true).1 w' := by
  have hb1 := (Below.refl w.heap.size w).alloc (Nat.le_refl _) (.cells #[.bool false, .slice none 0 0, .map none] 45)
  have HM := Lib.hid hM
  have HB1 := Lib.hid hb1
  have HP := Lib.hid (put_any _ N b0 w.heap.size t L p true 45 (HM.out.keep hb1) hb hW hp hN (heap_alloc_new w _) (fun h => by have := HM.out.lt h; omega))
  clear hM hb1
  go_enter Tryd.func17, Tryd.ntmps17
  go_wp2_with fail
  refine HP.out.mono ?_
  rintro e w1 ⟨rfl, h1⟩
  have HR := Lib.hid (PutsR.trk HB1.out (Nat.le_refl _) h1)
  clear h1
  generalize hg : (addT t p true).2 = g
  have HG := Lib.hid hg
  clear hg
  go_wp2
  refine bodyPost_ret (v := .int .i64 g) ?_ rfl ⟨by rw [HG.out], HR.out⟩
  simp [results, Tryd.results17, go_sem]
end
end Trk
end Go.Proofs.YtkhkcfbacnkcnaaDoor
/- A row of bytes of the call's own, made longer by noughts; made shorter. Of no program. -/
namespace Go.Proofs.YtkhkcfbacnkcnaaDoor
open Go.RowKit Go.MapKept
namespace Trk

theorem zero_list (v : Value) (k : Nat) : (Builtin.zeroCells #[v] k).toList = List.replicate k v := by
  apply List.ext_getElem
  · simp [Builtin.zeroCells]
  · intro i h1 h2
    simp [Builtin.zeroCells, Nat.mod_one]
theorem zero_arr (v : Value) (k : Nat) : Builtin.zeroCells #[v] k = (List.replicate k v).toArray := by
  rw [← zero_list]
section
variable {P : Program}
theorem run_append_zeros (w : World) (base : Nat) (t tn ty e : TypeId) (i : TypeInfo) (z : Value) (kq kn : IntKind) (ht : P.underlying t = some (.slice e)) (htn : P.underlying tn = some (.int kn)) (hi : P.info? e = some i) (hz : i.zero = some z)
    (hsize : i.size = 1) (hby : i.bytes = 1) (hzs : z.cells = #[z]) (hz1 : z.oneCell' = true) (v : Value) (n : Nat) (xs : List Value) (hown : w.ownsRow base e 1 v n xs) (k : Nat) (h0 : 0 < k) (hk : n + k ≤ 1000000000) (hbase : base ≤ w.heap.size) :
    ∃ v' w', (Builtin.append_ #[t, tn] ty #[v, .int kq (k : Int)]).run P w = .ok v' w' ∧ w'.ownsRow base e 1 v' (n + k) (xs ++ List.replicate k z) ∧ w.grownBy w' v.ownBlock ∧ (v'.ownBlock = v.ownBlock ∨ v'.ownBlock = some w.heap.size) := by
  have hlen : (xs ++ List.replicate k z).length = (n + k) * 1 := by rw [List.length_append, hown.1, List.length_replicate, Nat.mul_one, Nat.mul_one]
  have grown : ∀ (old : Nat) (row : Option Nat),
      (w.drew.alloc (.cells (xs.toArray ++ Builtin.zeroCells z.cells k ++ Builtin.zeroCells z.cells (grownCap w (n + k) old e - (n + k))) e)).ownsRow base e 1
        (.slice (some ⟨w.heap.size, 0, none⟩) (n + k) (grownCap w (n + k) old e)) (n + k) (xs ++ List.replicate k z) ∧
      w.grownBy (w.drew.alloc (.cells (xs.toArray ++ Builtin.zeroCells z.cells k ++ Builtin.zeroCells z.cells (grownCap w (n + k) old e - (n + k))) e)) row := by
    intro old row
    have hge := grownCap_ge w (n + k) old e
    have hcm : grownCap w (n + k) old e ≤ maxLen := grownCap_le_maxLen w (n + k) old e (by unfold maxLen; omega)
    have hxl : xs.length = n := by have := hown.1; omega
    refine ⟨⟨hlen, .inr ⟨w.heap.size, _, _, rfl, hbase, heap_alloc_new w.drew _, hge, hcm, ?_, ?_⟩⟩, ⟨rfl, rfl, rfl, by simp, fun k' hk' _ => Below.heap_alloc w.drew _ k' hk'⟩⟩
    · simp only [Array.size_append, List.size_toArray, size_zeroCells, hzs, hxl]
      simp
      omega
    · simp only [Array.toList_append, List.append_assoc]
      rw [← List.append_assoc, ← hlen, hzs, zero_list]
      exact List.take_left
  rcases hown.2 with ⟨rfl, rfl⟩ | ⟨g, cap, cur, rfl, hbg, hg, hnc, hcm, hcs, htake⟩
  · have hx : xs = [] := List.eq_nil_of_length_eq_zero (by simpa using hown.1)
    subst hx
    have hr := Lib.run_append_nil_zeros (P := P) w t tn ty e i z kq kn ht htn hi hz k h0 (by omega) (by omega) (by rw [hby]; omega)
    have hgr := grown 0 (Value.ownBlock (.slice none 0 0))
    simp only [Nat.zero_add, List.nil_append] at hgr ⊢
    exact ⟨_, _, hr, by simpa using hgr.1, by simpa using hgr.2, .inr rfl⟩
  · have hxl : xs.length = n := by have := hown.1; omega
    by_cases hroom : n + k ≤ cap
    · have hst := run_storeCells_at P g n e (List.replicate k z) 0 cur w hg (by rw [List.length_replicate, hcs]; omega) (fun x hx => by obtain ⟨_, rfl⟩ := List.mem_replicate.1 hx; exact hz1)
      have hw : IntKind.i64.wrap (k : Int) = k := by rw [IntKind.wrap_i64]; omega
      have hadd : (⟨g, 0, none⟩ : Addr).add n = ⟨g, n, none⟩ := by rw [Go.WideShapes.add_plain, Nat.zero_add]
      refine ⟨.slice (some ⟨g, 0, none⟩) (n + k) cap, w.setRow g (cur.toList.take (n + 0) ++ List.replicate k z ++ cur.toList.drop (n + 0 + (List.replicate k z).length)).toArray, ?_, ⟨hlen, .inr ⟨g, cap, _, rfl, hbg, setRow_heap w g cur _ e _ hg, hroom, hcm, ?_, ?_⟩⟩, ⟨rfl, rfl, rfl, by simp, fun k _ hk => setRow_other w g k _ (fun e => hk (by simp [Value.ownBlock, e]))⟩, .inl rfl⟩
      · have h1 : ¬ (281474976710656 < (k : Int)) := by omega
        have h2 : ¬ k = 0 := by omega
        have h3 : ¬ ((k : Int) < 0) := by omega
        have hst' : (storeCells ⟨g, n, none⟩ (List.replicate k z)).run P w = _ := hst
        simp [Builtin.append_, run_underlying ht, run_underlying htn, sizeOf, typeInfo, zeroValue, hi, hz, hsize, hby, asInt, asIntOf, hw, h1, h2, h3, hroom, hzs, zero_list, hadd, hst']
      · simp only [List.size_toArray, List.length_append, List.length_take, List.length_drop, Array.length_toList, List.length_replicate]
        omega
      · have ht' : cur.toList.take (n + 0) = xs := by rw [Nat.add_zero, ← htake, Nat.mul_one]
        rw [ht', ← hlen]
        exact List.take_left
    · have holds : ∀ j u, xs[j]? = some u → w.drew.cell? ((⟨g, 0, none⟩ : Addr).add j) = some u := fun j u hu => hown.cells (g := g) rfl j u (by simpa using hu)
      have hl := run_loadCells_list (P := P) w.drew ⟨g, 0, none⟩ xs holds
      have hr := Lib.run_append_grow_zeros (P := P) w t tn ty e i z kq kn ht htn hi hz (some ⟨g, 0, none⟩) n cap xs (by
        unfold Builtin.firstCells
        rw [hsize, Nat.mul_one, ← hxl]
        exact hl) k h0 (by omega) (by omega) (by omega) (by rw [hby]; omega) (by
          rw [hby]
          have := nextslicecap_le (show cap < n + k by omega)
          omega)
      have hgr := grown cap (Value.ownBlock (.slice (some ⟨g, 0, none⟩) n cap))
      exact ⟨_, _, hr, hgr.1, hgr.2, .inr rfl⟩
end
theorem step_append_zeros {P : Program} {w w' : World} {ops : Array Oper} {o : Oper} {a : Act} {K : Act → World → Prop} {Q : Exit → Act → World → Prop} {E : Prop} (hgd : o.guard = none) (s x : Operand) (t tn : TypeId)
    (ho : o.op = .call { callee := .builtin .append, args := #[s, x], argTypes := #[t, tn] }) (v u v' : Value) (hs : a.eval s = v) (hx : a.eval x = u) (hr : (Builtin.append_ #[t, tn] o.type #[v, u]).run P w = .ok v' w')
    (h : K (a.put o.dst v') w') : if Region.wanted o (yielded ops a.tmps) = true then Oper.wp P o a w K Q else E := by
  have hw : Region.wanted o (yielded ops a.tmps) = true := by simp [Region.wanted, hgd]
  rw [if_pos hw]
  unfold Oper.wp execOp
  simp only [ho, resolve, invoke, builtin, Sem.run_bind, Sem.run_pure, Result.andThen_ok, List.map_toArray, List.map_cons, List.map_nil, hs, hx, hr]
  exact h

/-- the first of a row -/
theorem own_shrink {w : World} {B n m c : Nat} {t : TypeId} {A : Option Addr} {xs : List Value} (h : w.ownsRow B t 1 (.slice A n c) n xs) (hm : m ≤ n) : w.ownsRow B t 1 (.slice A m c) m (xs.take m) := by
  rcases h with ⟨h1, h2⟩
  refine ⟨by rw [List.length_take]; omega, ?_⟩
  rcases h2 with ⟨e, h0⟩ | ⟨g, cap, cur, e, hB, hh, hnc, hcm, hcs, ht⟩
  · injection e with e1 e2 e3
    subst e1 e3
    exact .inl ⟨by rw [show m = 0 by omega], by omega⟩
  · injection e with e1 e2 e3
    subst e1 e3
    refine .inr ⟨g, c, cur, rfl, hB, hh, by omega, hcm, hcs, ?_⟩
    rw [← ht, List.take_take]
    congr 1
    omega
end Trk
end Go.Proofs.YtkhkcfbacnkcnaaDoor
/- A file's bytes: other ones in the tree; made longer. -/
namespace Go.Proofs.YtkhkcfbacnkcnaaDoor
open Go.RowKit Go.MapKept
namespace Trk
open Tre (Nm Th fi isDirAt dirT goT goF setT dropT fileT addT zt)
open Pat (Txs)

/-- a thing whose bytes are other ones -/
def DatR (w : World) (N : Nat) (x : Nd) (f : ByteArray → Option Nat) (d : Bool) (s' : ByteArray) (w' : World) : Prop :=
  ∃ A' c', Nod w' N ⟨x.b, A', c', x.m⟩ f d s' ∧ (∀ a, A' = some a → x.A.map (·.block) = some a.block ∨ w.heap.size ≤ a.block) ∧ Chg (· ∈ own x) w w'
theorem dat_nodup {w : World} {x : Nd} (h1 : (own x).Nodup) (hlt : ∀ i ∈ own x, i < w.heap.size) {A' : Option Addr} {c' : Nat} (hA : ∀ a, A' = some a → x.A.map (·.block) = some a.block ∨ w.heap.size ≤ a.block) : (own ⟨x.b, A', c', x.m⟩).Nodup := by
  cases hA' : A' with
  | none =>
    unfold own at h1 ⊢
    simp only [Option.map_none, Option.toList_none, List.append_nil]
    refine List.Nodup.sublist ?_ h1
    exact List.Sublist.cons_cons _ (List.sublist_append_left _ _)
  | some a =>
    rcases hA a hA' with h | h
    · have : own (⟨x.b, some a, c', x.m⟩ : Nd) = own x := by
        unfold own
        rw [h]
        rfl
      rw [this]
      exact h1
    · have hb := hlt x.b (own_mem.2 (.inl rfl))
      unfold own
      cases hm : x.m with
      | none => simp; omega
      | some g =>
        have hg := hlt g (own_mem.2 (.inr (.inl hm)))
        have hbg : x.b ≠ g := fun e => by
          unfold own at h1
          rw [hm] at h1
          simp [e] at h1
        simp
        exact ⟨⟨hbg, by omega⟩, by omega⟩
/-- where the things lie, one's bytes elsewhere -/
def Ld (L : Nm → Nd) (p : Nm) (A' : Option Addr) (c' : Nat) (q : Nm) : Nd := if q = p then ⟨(L p).b, A', c', (L p).m⟩ else L q
section
variable {L : Nm → Nd} {p : Nm} {A' : Option Addr} {c' : Nat}
theorem Ld_self : Ld L p A' c' p = ⟨(L p).b, A', c', (L p).m⟩ := if_pos rfl
theorem Ld_other {q : Nm} (h : q ≠ p) : Ld L p A' c' q = L q := if_neg h
theorem Ld_b {q : Nm} : (Ld L p A' c' q).b = (L q).b := by
  unfold Ld
  split
  · rename_i e
    rw [e]
  · rfl
end
theorem Mem.dat {w w' : World} {N : Nat} {t t' : List Th} {L : Nm → Nd} (h : Mem w N t L) {p : Nm} {d : Bool} {s s' : ByteArray} (hp : T t p = some (d, s)) (hT : ∀ n, T t' n = if n = p then some (d, s') else T t n)
    (hr : DatR w N (L p) (kb t L p) d s' w') : ∃ A' c', Mem w' N t' (Ld L p A' c') ∧ Chg (Fp t L) w w' ∧ ∀ i, Fp t' (Ld L p A' c') i → Fp t L i ∨ w.heap.size ≤ i := by
  obtain ⟨A', c', hN, hA, hc⟩ := hr
  have hFp : ∀ i ∈ own (L p), Fp t L i := fun i hi => ⟨p, _, hp, hi⟩
  have hown : ∀ i, i ∈ own (Ld L p A' c' p) → i ∈ own (L p) ∨ w.heap.size ≤ i := fun i hi => by
    rw [Ld_self, own_mem] at hi
    simp only at hi
    rcases hi with hi | hi | hi
    · exact .inl (own_mem.2 (.inl hi))
    · exact .inl (own_mem.2 (.inr (.inl hi)))
    · cases hA' : A' with
      | none => rw [hA'] at hi; simp at hi
      | some a =>
        rw [hA'] at hi
        simp at hi
        subst hi
        rcases hA a hA' with h | h
        · exact .inl (own_mem.2 (.inr (.inr h)))
        · exact .inr h
  have hkb : ∀ q x, kb t' (Ld L p A' c') q x = kb t L q x := fun q x => by
    unfold kb
    rw [Ld_b, hT]
    by_cases e : q ++ [x] = p
    · rw [if_pos e, e, hp]
      rfl
    · rw [if_neg e]
  refine ⟨A', c', ?_, ⟨hc.os, hc.tape, hc.output, hc.size, fun k hk hn => hc.block k hk (fun e => hn (hFp k e))⟩, ?_⟩
  · refine h.step (fun q => q = p) (Nat.le_refl N) (fun q hq => ?_) (fun q hq => ?_) (fun q v hv hq i hi => ?_) (fun q x v hv hq => hkb q x) (fun q d' s1 hq hv => ?_) (fun q v hq hv => ?_) (fun q r v u hq hv hu hne' i hi => ?_)
    · rw [hT, if_neg hq]
    · exact Ld_other hq
    · exact hc.block i (h.lt ⟨q, v, hv, hi⟩) (fun e => h.apart q p v _ hv hp hq i hi e)
    · obtain rfl : q = p := hq
      rw [hT, if_pos rfl] at hv
      injection hv with hv
      injection hv with h1 h2
      subst h1 h2
      rw [Ld_self]
      exact ⟨hN.box, hN.row, hN.map.congr fun x => (hkb q x).symm⟩
    · obtain rfl : q = p := hq
      rw [Ld_self]
      exact dat_nodup (h.one _ _ hp) (fun i hi => h.lt (hFp i hi)) hA
    · obtain rfl : q = p := hq
      rw [hT, if_neg hne'] at hu
      rw [Ld_other hne']
      rcases hown i hi with h1 | h1
      · exact h.apart q r _ u hp hu (fun e => hne' e.symm) i h1
      · intro hi'
        have := h.lt ⟨r, u, hu, hi'⟩
        omega
  · rintro i ⟨q, v, hv, hi⟩
    by_cases e : q = p
    · subst e
      exact (hown i hi).imp (hFp i) id
    · rw [hT, if_neg e] at hv
      rw [Ld_other e] at hi
      exact .inl ⟨q, v, hv, hi⟩

/-- bytes, made longer by noughts -/
def pad (s : ByteArray) (n : Nat) : ByteArray := s ++ zt (n - s.size)
theorem zt_zero : zt 0 = ByteArray.empty := rfl
theorem pad_none {s : ByteArray} {n : Nat} (h : n ≤ s.size) : pad s n = s := by
  unfold pad
  rw [show n - s.size = 0 by omega, zt_zero]
  exact ByteArray.append_empty
theorem pad_size {s : ByteArray} {n : Nat} (h : s.size ≤ n) : (pad s n).size = n := by
  unfold pad
  rw [ByteArray.size_append, Tre.zt_size]
  omega
theorem tx_app (s z : ByteArray) : Crc.tx (s ++ z) = Crc.tx s ++ Crc.tx z := by
  unfold Crc.tx
  rw [ByteArray.data_append, Array.toList_append, List.map_append]
theorem tx_zt (n : Nat) : Crc.tx (zt n) = List.replicate n 0 := Crc.tx_str (fun b hb => by obtain ⟨_, rfl⟩ := List.mem_replicate.1 hb; decide)
theorem tx_pad (s : ByteArray) (n : Nat) : Crc.tx (pad s n) = Crc.tx s ++ List.replicate (n - s.size) 0 := by
  unfold pad
  rw [tx_app, tx_zt]

set_option maxRecDepth 100000 in
set_option maxHeartbeats 300000 in
theorem grow_any (w : World) (N : Nat) (x : Nd) (f : ByteArray → Option Nat) (d : Bool) (s : ByteArray) (n : Nat) (h : Nod w N x f d s) (h1 : (own x).Nodup) (hs : s.size ≤ 268435456) (hn : n ≤ 268435456) :
    Calls Tryd.prog 44 #[.pointer (some ⟨x.b, 0, none⟩), .int .i64 (n : Int)] w fun e w' => e = .returned (.tuple #[]) ∧ DatR w N x f d (pad s n) w' := by
  have H := Lib.hid h
  have H1 := Lib.hid h1
  have hc1 := h.c1
  have hfr := h.fr 1
  have hlt := h.blt
  clear h h1
  by_cases hns : n ≤ s.size
  · have HR := Lib.hid (show DatR w N x f d (pad s n) w from ⟨x.A, x.c, by rw [pad_none hns]; exact H.out, fun a e => .inl (by rw [e]; rfl), Chg.refl _ _⟩)
    go_enter Tryd.func44, Tryd.ntmps44
    go_wp2
    refine ⟨rfl, .tuple #[], ?_, rfl, HR.out⟩
    simp [results, Tryd.results44, go_sem]
  · obtain ⟨i0, hi0, hz0, hz1, hz2⟩ := info_parts Crc.u8_info
    obtain ⟨v', w', hap0, ho', hg', hat⟩ := run_append_zeros (P := Tryd.prog) w.drew 0 23 3 23 5 i0 (.int .u8 0) .i64 .i64 Tryd.underlying23 Tryd.underlying3 hi0 hz0 hz1 hz2 rfl rfl _ s.size _ H.out.row.drew (n - s.size) (by omega) (by omega) (Nat.zero_le _)
    rw [show s.size + (n - s.size) = n by omega] at ho'
    replace hg' : w.grownBy w' _ := ⟨hg'.os, hg'.tape, hg'.output, hg'.size, hg'.block⟩
    obtain ⟨A', c', rfl⟩ := Crc.row_slice ho'
    have hap : (Builtin.append_ #[23, 3] 23 #[.slice x.A s.size x.c, .int .i64 (IntKind.i64.wrap ((n : Int) - (s.size : Int)))]).run Tryd.prog w.drew = .ok (.slice A' n c') w' := by
      rw [show IntKind.i64.wrap ((n : Int) - (s.size : Int)) = ((n - s.size : Nat) : Int) by rw [IntKind.wrap_i64]; omega]
      exact hap0
    have hne : ∀ a, x.A = some a → x.b ≠ a.block := fun a e e' => by
      have := H1.out
      unfold own at this
      rw [e] at this
      simp [e'] at this
    have hbx : w'.heap[x.b]? = w.heap[x.b]? := hg'.block x.b hlt (fun e => by
      cases hA : x.A with
      | none => rw [hA] at e; cases e
      | some a =>
        rw [hA] at e
        injection e with e
        exact hne a hA e)
    have hc1' : w'.cell? ⟨x.b, 1, none⟩ = some (.slice x.A s.size x.c) := (World.cell?_of_block (w := w) hbx).trans hc1
    have hfr' : w'.frozen? ⟨x.b, 1, none⟩ = false := (World.frozen?_of_block (w := w) hbx).trans hfr
    have HR := Lib.hid (show DatR w N x f d (pad s n) (w'.setCell ⟨x.b, 1, none⟩ (.slice A' n c')) from by
      obtain ⟨ty, hbox⟩ := H.out.box
      have hlt' : x.b < w'.heap.size := Nat.lt_of_lt_of_le hlt hg'.size
      have hps : (pad s n).size = n := pad_size (by omega)
      have hoth : ∀ k, k ≠ x.b → (w'.setCell ⟨x.b, 1, none⟩ (.slice A' n c')).heap[k]? = w'.heap[k]? := fun k hk => Below.heap_setCell _ _ _ k hk
      have hAb : ∀ a, A' = some a → x.A.map (·.block) = some a.block ∨ w.heap.size ≤ a.block := fun a e => by
        rw [e] at hat
        rcases hat with hat | hat
        · left
          cases hA : x.A with
          | none => rw [hA] at hat; cases hat
          | some a0 =>
            rw [hA] at hat
            simp only [Value.ownBlock] at hat
            exact hat.symm
        · right
          simp only [Value.ownBlock, Option.some.injEq] at hat
          have : w.drew.heap.size = w.heap.size := rfl
          omega
      have hA'ne : ∀ a, A' = some a → a.block ≠ x.b := fun a e e' => by
        rcases hAb a e with h | h
        · cases hA : x.A with
          | none => rw [hA] at h; cases h
          | some a0 =>
            rw [hA] at h
            injection h with h
            exact hne a0 hA (e'.symm.trans h.symm)
        · omega
      refine ⟨A', c', ⟨⟨ty, ?_⟩, ?_, ?_⟩, hAb, ⟨hg'.os, hg'.tape, hg'.output, by simpa [World.setCell] using hg'.size, fun k hk hk' => ?_⟩⟩
      · rw [heap_setCell_same _ _ 1 _ _ (.slice A' n c') (hbx.trans hbox), hps]
        rfl
      · rw [hps, tx_pad]
        have he : Crc.u8s (Crc.tx s ++ List.replicate (n - s.size) 0) = Crc.u8s (Crc.tx s) ++ List.replicate (n - s.size) (.int .u8 0) := by
          unfold Crc.u8s
          rw [List.map_append, List.map_replicate]
          rfl
        rw [he]
        rcases ho' with ⟨r1, r2⟩
        refine ⟨r1, ?_⟩
        rcases r2 with r0 | ⟨q, cap, cur, e, hB, hh, hr⟩
        · exact .inl r0
        · have hA : A' = some ⟨q, 0, none⟩ := by injection e
          exact .inr ⟨q, cap, cur, e, hB, (hoth q (hA'ne _ hA)).trans hh, hr⟩
      · have hk := H.out.map
        cases hm : x.m with
        | none => rw [hm] at hk; exact hk
        | some g =>
          rw [hm] at hk
          obtain ⟨D, hD⟩ := hk
          have hgx : g ≠ x.b := fun e => by
            have := H1.out
            unfold own at this
            rw [hm] at this
            simp [e] at this
          refine ⟨D, hD.block ((hoth g hgx).trans (hg'.block g hD.own.lt (fun e => ?_)))⟩
          cases hA : x.A with
          | none => rw [hA] at e; cases e
          | some a =>
            rw [hA] at e
            injection e with e
            have := H1.out
            unfold own at this
            rw [hm, hA] at this
            simp [e] at this
      · have hkx : k ≠ x.b := fun e => hk' (own_mem.2 (.inl e))
        refine (hoth k hkx).trans (hg'.block k hk (fun e => ?_))
        cases hA : x.A with
        | none => rw [hA] at e; cases e
        | some a =>
          rw [hA] at e
          injection e with e
          exact hk' (own_mem.2 (.inr (.inr (by rw [hA, e]; rfl)))))
    have HAP := Lib.hid hap
    clear hap hap0 ho' hg' hat hne hbx
    go_enter Tryd.func44, Tryd.ntmps44
    go_upto_region 1 with fail
    go_region_law (refine step_append_zeros (w' := w') (by rfl) (.tmp 15) (.tmp 22) 23 3 (by rfl) _ _ (.slice A' n c') (by rfl) (by rfl) HAP.out ?_)
    all_goals go_wp2
    all_goals (go_end0; exact ⟨rfl, HR.out⟩)
end Trk
end Go.Proofs.YtkhkcfbacnkcnaaDoor
/- The program's bytes from a place on. -/
namespace Go.Proofs.YtkhkcfbacnkcnaaDoor
open Go.RowKit Go.MapKept
namespace Trk
open Tre (Nm Th fi isDirAt dirT goT goF setT dropT fileT addT zt)
open Pat (Txs)

/-- bytes, these ones from a place on -/
def ovl (l : List Nat) (a : Nat) (bs : List Nat) : List Nat := l.take a ++ bs ++ l.drop (a + bs.length)
def ovr (s : ByteArray) (a : Nat) (bs : List Nat) : ByteArray := if bs = [] then s else Crc.str (ovl (Crc.tx (pad s (a + bs.length))) a bs)
theorem ovl_len {l : List Nat} {a : Nat} {bs : List Nat} (h : a + bs.length ≤ l.length) : (ovl l a bs).length = l.length := by
  unfold ovl
  simp
  omega
theorem tx_byt (s : ByteArray) : Crc.Byt (Crc.tx s) := by
  intro b hb
  unfold Crc.tx at hb
  obtain ⟨u, _, rfl⟩ := List.mem_map.1 hb
  exact u.toNat_lt
theorem ovl_byt {l : List Nat} {a : Nat} {bs : List Nat} (h : Crc.Byt l) (h' : Crc.Byt bs) : Crc.Byt (ovl l a bs) := by
  intro b hb
  unfold ovl at hb
  rcases List.mem_append.1 hb with hb | hb
  · rcases List.mem_append.1 hb with hb | hb
    · exact h b (List.mem_of_mem_take hb)
    · exact h' b hb
  · exact h b (List.mem_of_mem_drop hb)
/-- a row, other values in it -/
theorem row_splice {w : World} {B n c g a : Nat} {t : TypeId} {xs cs : List Value} {cur : Array Value} (h : w.ownsRow B t 1 (.slice (some ⟨g, 0, none⟩) n c) n xs) (hg : w.heap[g]? = some (.cells cur t (0, 0))) (ha : a + cs.length ≤ n) :
    (w.setRow g (cur.toList.take a ++ cs ++ cur.toList.drop (a + cs.length)).toArray).ownsRow B t 1 (.slice (some ⟨g, 0, none⟩) n c) n (xs.take a ++ cs ++ xs.drop (a + cs.length)) := by
  rcases h with ⟨h1, h2⟩
  refine ⟨by simp; omega, ?_⟩
  rcases h2 with ⟨e, h0⟩ | ⟨q, cap, cur', e, hB, hh, hnc, hcm, hcs, ht⟩
  · cases e
  · injection e with e1 e2 e3
    injection e1 with e1
    injection e1 with e1
    subst e1 e3
    rw [hg] at hh
    injection hh with hh
    injection hh with hh
    subst hh
    refine .inr ⟨g, c, _, rfl, hB, setRow_heap w g cur _ t _ hg, hnc, hcm, ?_, ?_⟩
    · simp
      omega
    · rw [← ht]
      simp only [Nat.mul_one]
      rw [List.append_assoc, List.append_assoc, List.take_append, List.take_append, List.take_take, List.take_take, List.length_take, Array.length_toList, List.drop_take]
      rw [show min a cur.size = a by omega, show min n a = a by omega, show min a n = a by omega, List.take_of_length_le (show cs.length ≤ n - a by omega)]
      congr 3
      omega

set_option maxRecDepth 100000 in
set_option maxHeartbeats 1000000 in
theorem twrite_any (w : World) (N : Nat) (x : Nd) (f : ByteArray → Option Nat) (d : Bool) (s : ByteArray) (a m c : Nat) (B : Option Addr) (bs : List Nat) (h : Nod w N x f d s) (h1 : (own x).Nodup) (hs : s.size ≤ 268435456) (hm : bs.length = m) (hn : a + m ≤ 268435456)
    (hB : Crc.Bts w B bs) (hap : ∀ ad, B = some ad → bs ≠ [] → ad.block ∉ own x) :
    Calls Tryd.prog 27 #[.pointer (some ⟨x.b, 0, none⟩), .int .i64 (a : Int), .slice B m c] w fun e w' => e = .returned (.tuple #[]) ∧ DatR w N x f d (ovr s a bs) w' := by
  by_cases h0 : m = 0
  · have hb0 : bs = [] := List.eq_nil_of_length_eq_zero (by omega)
    have HR := Lib.hid (show DatR w N x f d (ovr s a bs) w from ⟨x.A, x.c, by unfold ovr; rw [if_pos hb0]; exact h, fun a e => .inl (by rw [e]; rfl), Chg.refl _ _⟩)
    clear h h1 hB hap hm hb0
    subst h0
    go_enter Tryd.func27, Tryd.ntmps27
    go_wp2
    refine ⟨rfl, .tuple #[], ?_, rfl, HR.out⟩
    simp [results, Tryd.results27, go_sem]
  · have hb0 : bs ≠ [] := fun e => by rw [e] at hm; simp at hm; omega
    have hgr := grow_any w N x f d s (a + m) h h1 hs hn
    rw [show ((a + m : Nat) : Int) = (a : Int) + (m : Int) by omega] at hgr
    have HG := Lib.hid hgr
    clear hgr
    have H := Lib.hid h
    have H1 := Lib.hid h1
    have HBB := Lib.hid hB
    have HAP := Lib.hid hap
    have HM := Lib.hid hm
    have hadd : IntKind.i64.wrap ((a : Int) + (m : Int)) = ((a + m : Nat) : Int) := by rw [IntKind.wrap_i64]; omega
    clear h h1 hB hap hm
    go_enter Tryd.func27, Tryd.ntmps27
    go_wp2_with fail
    refine HG.out.mono ?_
    rintro e w1 ⟨rfl, A1, c1, hN1, hA1, hc1⟩
    have hsz : (pad s (a + m)).size = max s.size (a + m) := by
      by_cases h : s.size ≤ a + m
      · rw [pad_size h]; omega
      · rw [pad_none (by omega)]; omega
    obtain ⟨n1, hn1⟩ : ∃ n1, n1 = (pad s (a + m)).size := ⟨_, rfl⟩
    have hrow := hN1.row
    rw [← hn1] at hrow
    have hpos : 0 < n1 := by omega
    obtain ⟨g, cur, hAe, hcur, hcs, hnc⟩ : ∃ g cur, A1 = some ⟨g, 0, none⟩ ∧ w1.heap[g]? = some (.cells cur 5 (0, 0)) ∧ cur.size = c1 ∧ n1 ≤ c1 := by
      rcases hrow.2 with ⟨e, h⟩ | ⟨g, cap, cur, e, _, hh, h1, _, hq, _⟩
      · omega
      · simp only [Value.slice.injEq] at e
        obtain ⟨e1, _, e3⟩ := e
        rw [← e3] at h1 hq
        exact ⟨g, cur, e1, hh, by omega, h1⟩
    subst hAe
    have hcell := hN1.c1
    rw [← hn1] at hcell
    have hsl : a + m ≤ n1 := by omega
    have hml := HM.out
    have hB1 : Crc.Bts w1 B bs := by
      refine ⟨HBB.out.byt, HBB.out.len, fun j hj => ?_⟩
      obtain ⟨b, o, e, hlt, hc⟩ := HBB.out.at' j hj
      exact ⟨b, o, e, Nat.lt_of_lt_of_le hlt hc1.size, (World.cell?_of_block (w := w) (a := ⟨b, o + j, none⟩) (hc1.block b hlt (HAP.out _ e hb0))).trans hc⟩
    obtain ⟨b, o, rfl⟩ : ∃ b o, B = some ⟨b, o, none⟩ := by
      obtain ⟨b, o, e, _⟩ := HBB.out.at' 0 (by omega)
      exact ⟨b, o, e⟩
    have hcl : (Crc.u8s bs).length = m := by simp [Crc.u8s, hml]
    have hcp := run_copy_row (P := Tryd.prog) w1 23 23 3 5 g a (n1 - a) (c1 - a) ⟨b, o, none⟩ m c cur 5 (Crc.u8s bs) Tryd.underlying23 (by kernel_rfl) hcur (by rw [hcl]; exact (Nat.min_eq_left (by omega)).symm) (fun j v hj => by
        have hjl : j < bs.length := by
          have := (List.getElem?_eq_some_iff.1 hj).1
          omega
        obtain ⟨b', o', e, _, hc'⟩ := hB1.at' j hjl
        injection e with e
        injection e with e1 e2
        subst e1 e2
        rw [Go.WideShapes.add_plain, hc', ← hj]
        simp [Crc.u8s, List.getElem?_eq_getElem hjl]) (by rw [hcl]; omega) (Crc.u8s_one bs)
    rw [hcl] at hcp
    have HR := Lib.hid (show DatR w N x f d (ovr s a bs) (w1.setRow g (cur.toList.take a ++ Crc.u8s bs ++ cur.toList.drop (a + m)).toArray) from by
      have hsp := row_splice (a := a) (cs := Crc.u8s bs) hrow hcur (by rw [hcl]; omega)
      rw [hcl] at hsp
      have hov : (ovr s a bs).size = n1 := by
        unfold ovr
        rw [if_neg hb0, Crc.str_size, ovl_len (by rw [Crc.tx_len, hml, ← hn1]; omega), Crc.tx_len, hml, hn1]
      have htx : Crc.u8s (Crc.tx (ovr s a bs)) = (Crc.u8s (Crc.tx (pad s (a + m)))).take a ++ Crc.u8s bs ++ (Crc.u8s (Crc.tx (pad s (a + m)))).drop (a + m) := by
        unfold ovr
        rw [if_neg hb0, Crc.tx_str (ovl_byt (tx_byt _) HBB.out.byt), hml]
        unfold ovl Crc.u8s
        rw [List.map_append, List.map_append, List.map_take, List.map_drop, hml]
      have hone : (own (⟨x.b, some ⟨g, 0, none⟩, c1, x.m⟩ : Nd)).Nodup := dat_nodup H1.out (fun i hi => H.out.lt i hi) hA1
      have hoth : ∀ k, k ≠ g → (w1.setRow g (cur.toList.take a ++ Crc.u8s bs ++ cur.toList.drop (a + m)).toArray).heap[k]? = w1.heap[k]? := fun k hk => setRow_other w1 g k _ hk
      have hbg : x.b ≠ g := fun e => by
        unfold own at hone
        simp [e] at hone
      refine ⟨some ⟨g, 0, none⟩, c1, ⟨?_, ?_, ?_⟩, hA1, ⟨hc1.os, hc1.tape, hc1.output, by simpa [World.setRow] using hc1.size, fun k hk hk' => ?_⟩⟩
      · obtain ⟨ty, hb⟩ := hN1.box
        exact ⟨ty, by rw [hov, hoth _ hbg, hn1]; exact hb⟩
      · rw [hov, htx]
        exact hsp
      · have hk := hN1.map
        cases hm' : x.m with
        | none => rw [hm'] at hk; exact hk
        | some q =>
          rw [hm'] at hk
          obtain ⟨D, hD⟩ := hk
          refine ⟨D, hD.block (hoth q (fun e => ?_))⟩
          unfold own at hone
          rw [hm'] at hone
          simp [e] at hone
      · refine (hoth k (fun e => ?_)).trans (hc1.block k hk hk')
        rcases hA1 _ rfl with h | h
        · exact hk' (own_mem.2 (.inr (.inr (by rw [h, e]))))
        · simp only at h
          omega)
    clear hN1 hA1 hc1 hsz hn1 hrow hcur hcs hB1 hcl hml
    go_wp2_with fail
    rw [← List.append_assoc]
    go_end0
    exact ⟨rfl, HR.out⟩
end Trk
end Go.Proofs.YtkhkcfbacnkcnaaDoor
/- Rows that are sorted by putting one in at a time: of no program. -/
namespace Go.Proofs.YtkhkcfbacnkcnaaDoor
open Go.RowKit Go.MapKept
namespace Tre

section
variable {α : Type}
/-- put in ahead of the first one that isn't ahead of it -/
def ins (lt : α → α → Bool) : List α → α → List α
  | [], x => [x]
  | y :: o, x => if lt y x = true then y :: ins lt o x else x :: y :: o
theorem ins_len (lt : α → α → Bool) : ∀ (o : List α) (x : α), (ins lt o x).length = o.length + 1
  | [], _ => rfl
  | y :: o, x => by
    rw [ins]
    split
    · rw [List.length_cons, ins_len lt o x]; rfl
    · rfl
/-- where it is put in -/
theorem ins_at (lt : α → α → Bool) : ∀ (o : List α) (x : α) (a : Nat), a ≤ o.length → (∀ j (h : j < o.length), j < a → lt o[j] x = true) → (∀ h : a < o.length, lt o[a] x = false) → ins lt o x = o.take a ++ x :: o.drop a
  | [], x, a, h, _, _ => by
    have : a = 0 := by simpa using h
    subst this
    rfl
  | y :: o, x, 0, _, _, h2 => by
    have := h2 (by simp)
    rw [ins, if_neg (by simpa using this)]
    rfl
  | y :: o, x, a + 1, h, h1, h2 => by
    have hy : lt y x = true := h1 0 (by simp) (by omega)
    rw [ins, if_pos hy, ins_at lt o x a (by simpa using h) (fun j hj hja => h1 (j + 1) (by rw [List.length_cons]; omega) (by omega)) (fun ha => h2 (by rw [List.length_cons]; omega))]
    rfl
/-- all put in, one by one -/
def sorted (lt : α → α → Bool) (l : List α) : List α := l.foldl (ins lt) []
theorem sorted_snoc (lt : α → α → Bool) (l : List α) (x : α) : sorted lt (l ++ [x]) = ins lt (sorted lt l) x := by
  unfold sorted
  rw [List.foldl_append]
  rfl
theorem sorted_len (lt : α → α → Bool) (l : List α) : (sorted lt l).length = l.length := by
  have key : ∀ (l o : List α), (l.foldl (ins lt) o).length = o.length + l.length := by
    intro l
    induction l with
    | nil => intro o; rfl
    | cons x l ih => intro o; rw [List.foldl_cons, ih, ins_len, List.length_cons]; omega
  have := key l []
  simpa [sorted] using this
end

/-- which of two things stands ahead -/
def ahead (x y : Th) : Bool := Pat.bef x.1 y.1
/-- all things in order -/
def allT (t : List Th) : List Th := sorted ahead t
/-- a directory's names, rising -/
def kidT (t : List Th) (n : Nm) : List ByteArray := sorted Pat.less ((t.filter fun x => decide (x.1.length = n.length + 1 ∧ x.1.take n.length = n)).map fun x => x.1.getD n.length ByteArray.empty)
end Tre
end Go.Proofs.YtkhkcfbacnkcnaaDoor
/- All things in order. -/
namespace Go.Proofs.YtkhkcfbacnkcnaaDoor
open Go.RowKit Go.MapKept
namespace Tre
open Pat (Txs)

/-- which of two things, with where their names lie, stands ahead -/
def aheadG (x y : Tg) : Bool := Pat.bef x.2.2.1 y.2.2.1
theorem ins_map {α β : Type} (f : α → β) (lt : α → α → Bool) (lt' : β → β → Bool) (h : ∀ x y, lt x y = lt' (f x) (f y)) : ∀ (o : List α) (x : α), (ins lt o x).map f = ins lt' (o.map f) (f x)
  | [], _ => rfl
  | y :: o, x => by
    rw [ins, List.map_cons, ins, ← h]
    split
    · rw [List.map_cons, ins_map f lt lt' h o x]
    · rfl
theorem sorted_map {α β : Type} (f : α → β) (lt : α → α → Bool) (lt' : β → β → Bool) (h : ∀ x y, lt x y = lt' (f x) (f y)) (l : List α) : (sorted lt l).map f = sorted lt' (l.map f) := by
  have key : ∀ (l o : List α), (l.foldl (ins lt) o).map f = (l.map f).foldl (ins lt') (o.map f) := by
    intro l
    induction l with
    | nil => intro o; rfl
    | cons x l ih => intro o; rw [List.foldl_cons, ih, List.map_cons, List.foldl_cons, ins_map f lt lt' h]
  exact key l []
theorem ths_sorted (l : List Tg) : ths (sorted aheadG l) = allT (ths l) := sorted_map _ aheadG ahead (fun _ _ => rfl) l
theorem mem_ins {α : Type} (lt : α → α → Bool) : ∀ (o : List α) (x y : α), y ∈ ins lt o x → y = x ∨ y ∈ o
  | [], x, y, h => by simpa [ins] using h
  | z :: o, x, y, h => by
    rw [ins] at h
    split at h
    · rcases List.mem_cons.1 h with rfl | h
      · exact .inr (by simp)
      · rcases mem_ins lt o x y h with h | h
        · exact .inl h
        · exact .inr (by simp [h])
    · rcases List.mem_cons.1 h with rfl | h
      · exact .inl rfl
      · exact .inr h
theorem mem_sorted {α : Type} (lt : α → α → Bool) (l : List α) (y : α) (h : y ∈ sorted lt l) : y ∈ l := by
  have key : ∀ (l o : List α), y ∈ l.foldl (ins lt) o → y ∈ o ∨ y ∈ l := by
    intro l
    induction l with
    | nil => intro o h; exact .inl h
    | cons x l ih =>
      intro o h
      rw [List.foldl_cons] at h
      rcases ih _ h with h | h
      · rcases mem_ins lt o x y h with rfl | h
        · exact .inr (by simp)
        · exact .inl h
      · exact .inr (by simp [h])
  simpa using key l [] h

/-- things that are answered -/
def LsR (w : World) (t : List Th) (e : Ending) (w' : World) : Prop :=
  ∃ (A : Option Addr) (c : Nat) (l : List Tg), e = .returned (.slice A l.length c) ∧ Ths w' A l ∧ ths l = t ∧ Below w.heap.size w w'

/-- a thing in a block of its own -/
structure Bg (w : World) (b : Nat) (g : Tg) : Prop where
  lt : b < w.heap.size
  c0 : w.cell? ⟨b, 0, none⟩ = some (.slice g.1 g.2.2.1.length g.2.1)
  c1 : w.cell? ⟨b, 1, none⟩ = some (.bool g.2.2.2.1)
  c2 : w.cell? ⟨b, 2, none⟩ = some (.string g.2.2.2.2)
theorem Bg.keep {w w' : World} {b : Nat} {g : Tg} (h : Bg w b g) (hb : Below w.heap.size w w') : Bg w' b g :=
  ⟨Nat.lt_of_lt_of_le h.lt hb.size, (hb.cell (p := ⟨b, 0, none⟩) h.lt).trans h.c0, (hb.cell (p := ⟨b, 1, none⟩) h.lt).trans h.c1, (hb.cell (p := ⟨b, 2, none⟩) h.lt).trans h.c2⟩
theorem bg_new (w : World) (g : Tg) (t : TypeId) : Bg (w.alloc (.cells #[.slice g.1 g.2.2.1.length g.2.1, .bool g.2.2.2.1, .string g.2.2.2.2] t)) w.heap.size g :=
  ⟨by simp, Crc.alloc_cell w _ t 0, Crc.alloc_cell w _ t 1, Crc.alloc_cell w _ t 2⟩

theorem Ths.drewN {w : World} {A : Option Addr} {l : List Tg} (h : Ths w A l) (n : Nat) : Ths (w.drewN n) A l := h.keep (Pat.below_drewN (Below.refl _ _) n)
theorem Bg.drewN {w : World} {b : Nat} {g : Tg} (h : Bg w b g) (n : Nat) : Bg (w.drewN n) b g := h.keep (Pat.below_drewN (Below.refl _ _) n)
/-- what stands behind a thing's being put in: the new row -/
def Put (w w' : World) (o : List Tg) (g : Tg) (G : Option Addr) (n gc : Nat) : Prop := Ths w' G (ins aheadG o g) ∧ (G = none → gc = 0) ∧ n ≤ gc ∧ Below w.heap.size w w'

end Tre
end Go.Proofs.YtkhkcfbacnkcnaaDoor
/- A directory's names, rising. -/
namespace Go.Proofs.YtkhkcfbacnkcnaaDoor
open Go.RowKit Go.MapKept
namespace Tre
open Pat (Txs strs)

/-- names behind a row of the call's own -/
theorem app_txs {W : World} {A : Option Addr} {l : List ByteArray} {B n : Nat} {v : Value} {xs : List Value} (c m : Nat) (hm : l.length = m) (hown : W.ownsRow B 9 1 v n xs) (hB : B ≤ W.heap.size) (h : Txs W A l) (hA : A = none → c = 0) (hn : n ≤ 1000000) (hl : m ≤ 1000000) :
    ∃ (G : Option Addr) (gc : Nat) (w' : World), (Builtin.append_ #[24, 24] 24 #[v, .slice A m c]).run Tryd.prog W = .ok (.slice G (n + m) gc) w' ∧ w'.ownsRow B 9 1 (.slice G (n + m) gc) (n + m) (xs ++ strs l) ∧ W.grownBy w' v.ownBlock := by
  subst hm
  obtain ⟨i0, hi0, hz0, hz1, hz2⟩ := Pat.info_parts Pat.str_info
  cases A with
  | none =>
    have hl0 : l = [] := by
      cases l with
      | nil => rfl
      | cons b l =>
        obtain ⟨_, _, e, _⟩ := h.at' 0 (by simp)
        cases e
    subst hl0
    rw [hA rfl]
    obtain ⟨G, gc, rfl⟩ := Pat.row_slice hown
    refine ⟨G, gc, W, run_append_owned_none (P := Tryd.prog) _ B 24 24 9 i0 1 Tryd.underlying24 hi0 _ n xs hown, by simpa using hown, ⟨rfl, rfl, rfl, Nat.le_refl _, fun _ _ _ => rfl⟩⟩
  | some ad =>
    obtain ⟨v', w', hr, h2, h3, _, _⟩ := run_append_own_at (P := Tryd.prog) W B 24 24 9 i0 (.string ByteArray.empty) 1 16 Tryd.underlying24 hi0 hz0 hz1 hz2 rfl (by decide) _ n xs hown ad l.length c (strs l) (by simp [strs]) (Pat.txs_news h) (Pat.strs_one l) (by unfold maxLen; omega) (by omega) hB
    obtain ⟨G, gc, rfl⟩ := Pat.row_slice h2
    exact ⟨G, gc, w', hr, h2, h3⟩
theorem und_tx : Tryd.prog.underlying 24 = some (.slice (Tryd.prog.elem 24)) := by kernel_rfl
theorem size_tx (W : World) : (sizeOf (Tryd.prog.elem 24)).run Tryd.prog W = .ok 1 W := by kernel_rfl
/-- names up to a place -/
theorem txs_upto (A : Option Addr) (n c q : Nat) (hq : q ≤ n) (hn : n ≤ c) (hA : A = none → c = 0) : ∃ B : Option Addr, (∀ W, (Instr.slice 24 (.slice A n c) none (some (.int .i64 (q : Int))) none).run Tryd.prog W = .ok (.slice B q c) W) ∧ (B = none → c = 0) ∧ ∀ W (l : List ByteArray), l.length = n → Txs W A l → Txs W B (l.take q) := by
  refine ⟨if c = 0 then A else A.map (·.add (0 * 1)), fun W => ?_, fun e => ?_, fun W l hl hb => ?_⟩
  · rw [run_slice_h _ _ _ _ _ und_tx .i64 (q : Int) (by omega) (by omega), size_tx]
    rfl
  · split at e
    · assumption
    · exact hA (by simpa using e)
  · refine ⟨fun g hg => hb.size g (List.mem_of_mem_take hg), by rw [List.length_take]; have := hb.len; omega, fun j hj => ?_⟩
    rw [List.length_take] at hj
    obtain ⟨b, o, rfl, h1, h2⟩ := hb.at' j (by omega)
    refine ⟨b, o, ?_, h1, ?_⟩
    · split
      · rfl
      · rw [Option.map_some, Go.WideShapes.add_plain]
        rfl
    · rw [List.getElem_take]
      exact h2
/-- names from a place on -/
theorem txs_from (A : Option Addr) (n c q : Nat) (hq : q ≤ n) (hn : n ≤ c) (hA : A = none → c = 0) : ∃ B : Option Addr, (∀ W, (Instr.slice 24 (.slice A n c) (some (.int .i64 (q : Int))) none none).run Tryd.prog W = .ok (.slice B (n - q) (c - q)) W) ∧ (B = none → c - q = 0) ∧ ∀ W (l : List ByteArray), l.length = n → Txs W A l → Txs W B (l.drop q) := by
  refine ⟨if c = q then A else A.map (·.add (q * 1)), fun W => ?_, fun e => ?_, fun W l hl hb => ?_⟩
  · rw [run_slice_l _ _ _ _ _ und_tx .i64 (q : Int) (by omega) (by omega), size_tx]
    rfl
  · split at e
    · omega
    · have := hA (by simpa using e)
      omega
  · refine ⟨fun g hg => hb.size g (List.mem_of_mem_drop hg), by rw [List.length_drop]; have := hb.len; omega, fun j hj => ?_⟩
    rw [List.length_drop] at hj
    obtain ⟨b, o, rfl, h1, h2⟩ := hb.at' (q + j) (by omega)
    refine ⟨b, o + q, ?_, h1, ?_⟩
    · rw [if_neg (by omega), Option.map_some, Go.WideShapes.add_plain, Nat.mul_one]
    · rw [List.getElem_drop, Nat.add_assoc]
      exact h2

/-- the names in a directory, as they stand -/
def kidL (t : List Th) (n : Nm) : List ByteArray := (t.filter fun x => decide (x.1.length = n.length + 1 ∧ x.1.take n.length = n)).map fun x => x.1.getD n.length ByteArray.empty
theorem kidT_eq (t : List Th) (n : Nm) : kidT t n = sorted Pat.less (kidL t n) := rfl
theorem kidL_yes {t : List Th} {n : Nm} {x : Th} (h : x.1.length = n.length + 1 ∧ x.1.take n.length = n) : kidL (t ++ [x]) n = kidL t n ++ [x.1.getD n.length ByteArray.empty] := by
  unfold kidL
  rw [List.filter_append, List.map_append, List.filter_cons_of_pos (by simpa using h)]
  rfl
theorem kidL_no {t : List Th} {n : Nm} {x : Th} (h : ¬ (x.1.length = n.length + 1 ∧ x.1.take n.length = n)) : kidL (t ++ [x]) n = kidL t n := by
  unfold kidL
  rw [List.filter_append, List.map_append, List.filter_cons_of_neg (by simpa using h)]
  simp
theorem kidL_len (t : List Th) (n : Nm) : (kidL t n).length ≤ t.length := by
  unfold kidL
  rw [List.length_map]
  exact List.length_filter_le _ _

/-- in a block that wasn't there before -/
def Fr (w : World) (A : Option Addr) : Prop := ∀ a, A = some a → w.heap.size ≤ a.block
theorem fr_none (w : World) : Fr w none := fun _ e => by cases e
theorem Fr.back {w w' : World} {A : Option Addr} (h : Fr w' A) (hs : w.heap.size ≤ w'.heap.size) : Fr w A := fun a e => Nat.le_trans hs (h a e)
theorem fr_row {w w' : World} {B n c y : Nat} {t : TypeId} {G : Option Addr} {xs : List Value} (h : w'.ownsRow B t 1 (.slice G n c) y xs) (hB : w.heap.size ≤ B) (hy : 0 < y) : Fr w G := fun a e => by
  rcases h.2 with ⟨_, h0⟩ | ⟨g, _, _, e', hg, _⟩
  · omega
  · injection e' with e'
    rw [e] at e'
    injection e' with e'
    rw [e']
    exact Nat.le_trans hB hg
/-- names that are answered -/
def NmR (w : World) (l : List ByteArray) (e : Ending) (w' : World) : Prop := ∃ (A : Option Addr) (c : Nat), e = .returned (.slice A l.length c) ∧ (Txs w' A l ∧ Fr w A) ∧ Below w.heap.size w w'
theorem own_s (w : World) (s : ByteArray) : (w.alloc (.cells #[.string s] 9)).ownsRow w.heap.size 9 1 (.slice (some ⟨w.heap.size, 0, none⟩) 1 1) 1 (strs [s]) :=
  ⟨rfl, .inr ⟨w.heap.size, 1, #[.string s], rfl, Nat.le_refl _, heap_alloc_new w _, Nat.le_refl _, by unfold maxLen; omega, rfl, rfl⟩⟩

end Tre
end Go.Proofs.YtkhkcfbacnkcnaaDoor
/- A file fewer; some of a file's bytes. -/
namespace Go.Proofs.YtkhkcfbacnkcnaaDoor
open Go.RowKit Go.MapKept
namespace Tre
open Pat (Txs)

theorem goF_found (t : List Th) (n : Nm) : ∀ (f k : Nat), goF t n f k = 0 → ∀ j, k ≤ j → j < k + f → ∃ i, fi t (n.take j) = some i
  | 0, k, _, j, h1, h2 => by omega
  | f + 1, k, h, j, h1, h2 => by
    cases hf : fi t (n.take k) with
    | none => rw [goF_none hf] at h; cases h
    | some i =>
      by_cases hc : k < n.length ∧ isDirAt t i = false
      · rw [goF_file hf hc.1 hc.2] at h; cases h
      · rw [goF_next hf hc] at h
        by_cases hj : j = k
        · subst hj; exact ⟨i, hf⟩
        · exact goF_found t n f (k + 1) h j (by omega) (by omega)
theorem goT_found {t : List Th} {n : Nm} (h0 : n ≠ []) (h : goT t n = 0) : ∃ i, fi t n = some i := by
  have hp := List.length_pos_iff.2 h0
  obtain ⟨i, hi⟩ := goF_found t n n.length 1 h n.length (by omega) (by omega)
  rw [List.take_length] at hi
  exact ⟨i, hi⟩
/-- a path's file is there, and where -/
theorem fileT_ok {t : List Th} {p : ByteArray} (h : (fileT t p).2 = 0) : ∃ (n : Nm) (i : Nat), Pat.spl p = some n ∧ goT t n = 0 ∧ n ≠ [] ∧ fi t n = some i ∧ i < t.length ∧ (fileT t p).1 = (i : Int) := by
  cases hs : Pat.spl p with
  | none => rw [fileT_none hs] at h; cases h
  | some n =>
    by_cases hg : goT t n = 0
    · cases hd : dirT t n with
      | true => rw [fileT_dir hs hg hd] at h; cases h
      | false =>
        have h0 : n ≠ [] := fun e => by subst e; rw [dirT_nil] at hd; cases hd
        obtain ⟨i, hi⟩ := goT_found h0 hg
        refine ⟨n, i, rfl, hg, h0, hi, (fi_some hi).1, ?_⟩
        rw [fileT_yes hs hg hd]
        exact fv_some hi
    · rw [fileT_go hs hg] at h
      exact absurd h hg

/-- a file fewer; the error -/
def unlinkT (t : List Th) (p : ByteArray) : List Th × Int := if (fileT t p).2 ≠ 0 then (t, (fileT t p).2) else (dropT t (fileT t p).1.toNat, 0)

end Tre
end Go.Proofs.YtkhkcfbacnkcnaaDoor
/- Some of a file's bytes; a directory's names, or the error. -/
namespace Go.Proofs.YtkhkcfbacnkcnaaDoor
open Go.RowKit Go.MapKept
namespace Tre
open Pat (Txs)

/-- the bytes of the thing at i -/
def datT (t : List Th) (i : Nat) : ByteArray := match t[i]? with | some x => x.2.2 | none => ByteArray.empty
theorem dat_at {l : List Tg} {i : Nat} (h : i < l.length) : datT (ths l) i = l[i].2.2.2.2 := by
  unfold datT
  rw [List.getElem?_eq_getElem (by simpa using h)]
  simp
/-- bytes from a place on, so many at most -/
def rdT (s : ByteArray) (a n : Int) : ByteArray := if (s.size : Int) ≤ a then ⟨#[]⟩ else if n < ((s.extract a.toNat s.size).size : Int) then (s.extract a.toNat s.size).extract 0 n.toNat else s.extract a.toNat s.size
def readT (t : List Th) (p : ByteArray) (a n : Int) : ByteArray × Int :=
  if (fileT t p).2 ≠ 0 then (⟨#[]⟩, (fileT t p).2) else if a < 0 ∨ n < 0 then (⟨#[]⟩, 9) else (rdT (datT t (fileT t p).1.toNat) a n, 0)

/-- a directory's names, or the error -/
def listT (t : List Th) (p : ByteArray) : List ByteArray × Int :=
  match Pat.spl p with
  | none => ([], 3)
  | some n => if goT t n ≠ 0 then ([], goT t n) else if dirT t n = false then ([], 6) else (kidT t n, 0)
/-- names that are answered, with an error -/
def NeR (w : World) (r : List ByteArray × Int) (e : Ending) (w' : World) : Prop := ∃ (A : Option Addr) (c : Nat), e = .returned (.tuple #[.slice A r.1.length c, .int .i64 r.2]) ∧ (Txs w' A r.1 ∧ Fr w A) ∧ Below w.heap.size w w'

end Tre
end Go.Proofs.YtkhkcfbacnkcnaaDoor
/- A directory fewer. -/
namespace Go.Proofs.YtkhkcfbacnkcnaaDoor
open Go.RowKit Go.MapKept
namespace Tre
open Pat (Txs)

/-- a directory fewer; the error -/
def rmdirT (t : List Th) (p : ByteArray) : List Th × Int :=
  match Pat.spl p with
  | none => (t, 3)
  | some n => if goT t n ≠ 0 then (t, goT t n) else if dirT t n = false then (t, 6) else if n = [] then (t, 1) else if 0 < (kidT t n).length then (t, 8) else (dropT t (fv t n).toNat, 0)

/-- a box, the answer's block, and a thing fewer -/
theorem end_tr {w w2 w3 : World} {src l' : List Tg} {A A' : Option Addr} {c' b1 : Nat} {t : List Th} (hw : Ths w A src) (hb : Below w.heap.size w w2) (hlt : b1 < w2.heap.size) (hge : w.heap.size ≤ b1)
    (ht3 : Ths w3 A' l') (hl3 : ths l' = t) (hA3 : A' = none → c' = 0) (hc3 : l'.length ≤ c') (hb3 : Below w2.heap.size w2 w3) (hbA3 : ∀ a, A' = some a → w2.heap.size ≤ a.block) (hsrc : ∀ g ∈ l', ∃ x ∈ src, g.1 = x.1 ∧ g.2.1 = x.2.1 ∧ g.2.2.1 = x.2.2.1) (z : Int) :
    TrR w A src (t, z) (.returned (.tuple #[tv A' l'.length c', .int .i64 z])) (w3.setCell ⟨b1, 0, none⟩ (.slice A' l'.length c')) := by
  have hbz : Below w.heap.size w (w3.setCell ⟨b1, 0, none⟩ (.slice A' l'.length c')) := (hb.trans (hb3.mono hb.size)).setCell (p := ⟨b1, 0, none⟩) hge _
  refine ⟨A', c', l', rfl, ths_put ht3 (fun a e => Nat.lt_of_lt_of_le hlt (hbA3 a e)) (fun g hg => ?_), hl3, hA3, hc3, hbz, fun b hb' ha => ⟨fun a e _ => ?_, fun g hg a e hn => ?_⟩⟩
  · obtain ⟨x, hx, e1, e2, e3⟩ := hsrc g hg
    rw [e1, e3]
    exact ((hw.keep hbz).nm x hx).1
  · have h1 := hbA3 a e
    have h2 := hb.size
    omega
  · obtain ⟨x, hx, e1, e2, e3⟩ := hsrc g hg
    exact ha.2 x hx a (by rw [← e1]; exact e) (by rw [← e3]; exact hn)

end Tre
end Go.Proofs.YtkhkcfbacnkcnaaDoor
/- Just so many bytes. -/
namespace Go.Proofs.YtkhkcfbacnkcnaaDoor
open Go.RowKit Go.MapKept
namespace Tre
open Pat (Txs)

/-- just so many bytes; the error -/
def truncT (t : List Th) (p : ByteArray) (n : Int) : List Th × Int :=
  if (fileT t p).2 ≠ 0 then (t, (fileT t p).2) else if n < 0 ∨ 268435456 < n then (t, 9) else
    (setT t (fileT t p).1.toNat (if ((datT t (fileT t p).1.toNat).size : Int) < n then datT t (fileT t p).1.toNat ++ zt (n - (datT t (fileT t p).1.toNat).size).toNat else (datT t (fileT t p).1.toNat).extract 0 n.toNat), 0)

/-- two texts put together -/
theorem str_add (s z : ByteArray) (h : s.size + z.size ≤ 9223372036854775807) : Op.stringOp .add s z = pure (.string (s ++ z)) := by
  have hm : IntKind.i64.max = 9223372036854775807 := by decide
  unfold Op.stringOp
  simp only
  rw [if_neg (by rw [hm]; omega)]

end Tre
end Go.Proofs.YtkhkcfbacnkcnaaDoor
/- A file's bytes from a place on. -/
namespace Go.Proofs.YtkhkcfbacnkcnaaDoor
open Go.RowKit Go.MapKept
namespace Tre
open Pat (Txs)

/-- bytes with noughts behind them up to a place -/
def padT (s : ByteArray) (a : Int) : ByteArray := if (s.size : Int) < a then s ++ zt (a - s.size).toNat else s
/-- bytes, these ones from a place on -/
def wrT (s : ByteArray) (a : Int) (b : ByteArray) : ByteArray :=
  (padT s a).extract 0 a.toNat ++ b ++ (if a + (b.size : Int) < ((padT s a).size : Int) then (padT s a).extract (a.toNat + b.size) (padT s a).size else ⟨#[]⟩)
/-- a file's bytes from a place on; the error -/
def writeT (t : List Th) (p : ByteArray) (a : Int) (b : ByteArray) : List Th × Int :=
  if (fileT t p).2 ≠ 0 then (t, (fileT t p).2) else if a < 0 ∨ 268435456 < a ∨ 268435456 < a + (b.size : Int) then (t, 9) else if b.size = 0 then (t, 0) else
    (setT t (fileT t p).1.toNat (wrT (datT t (fileT t p).1.toNat) a b), 0)

end Tre
end Go.Proofs.YtkhkcfbacnkcnaaDoor
/- The program's Write. -/
namespace Go.Proofs.YtkhkcfbacnkcnaaDoor
open Go.RowKit Go.MapKept
namespace Trk
open Tre (Nm Th fi isDirAt dirT goT goF setT dropT fileT addT zt datT wrT padT writeT)
open Pat (Txs)

theorem pad_take (l : List Nat) (a k : Nat) : (l ++ List.replicate (a + k - l.length) 0).take a = (l ++ List.replicate (a - l.length) 0).take a := by
  rw [List.take_append, List.take_append, List.take_replicate, List.take_replicate]
  congr 2
  omega
theorem pad_drop (l : List Nat) (a k : Nat) : (l ++ List.replicate (a + k - l.length) 0).drop (a + k) = l.drop (a + k) := by
  rw [List.drop_append, List.drop_replicate]
  simp
theorem padT_nat (s : ByteArray) (a : Nat) : Crc.tx (padT s (a : Int)) = Crc.tx s ++ List.replicate (a - s.size) 0 := by
  unfold Tre.padT
  by_cases h : (s.size : Int) < (a : Int)
  · rw [if_pos h, tx_app, show ((a : Int) - s.size).toNat = a - s.size by omega, tx_zt]
  · rw [if_neg h, show a - s.size = 0 by omega]
    simp
theorem ovr_wr {s : ByteArray} {a : Nat} {bs : List Nat} (hb : Crc.Byt bs) (h0 : bs ≠ []) : ovr s a bs = wrT s (a : Int) (Crc.str bs) := by
  apply Ent.tx_inj
  unfold ovr Tre.wrT
  rw [if_neg h0, Crc.tx_str (ovl_byt (tx_byt _) hb), tx_app, tx_app, Crc.tx_str hb, Ent.tx_extract, padT_nat]
  have hps : (padT s (a : Int)).size = max s.size a := by
    rw [← Crc.tx_len, padT_nat, List.length_append, Crc.tx_len, List.length_replicate]
    omega
  have hd : Crc.tx (if (a : Int) + ((Crc.str bs).size : Int) < ((padT s (a : Int)).size : Int) then (padT s (a : Int)).extract ((a : Int).toNat + (Crc.str bs).size) (padT s (a : Int)).size else ⟨#[]⟩) = (Crc.tx s).drop (a + bs.length) := by
    rw [Crc.str_size, hps, show (a : Int).toNat = a from rfl]
    by_cases h : (a : Int) + (bs.length : Int) < ((max s.size a : Nat) : Int)
    · rw [if_pos h, Ent.tx_extract, padT_nat]
      have e : a - s.size = 0 := by omega
      rw [e, List.replicate_zero, List.append_nil]
      exact List.take_of_length_le (by rw [List.length_drop, Crc.tx_len]; omega)
    · rw [if_neg h]
      exact (List.drop_of_length_le (by rw [Crc.tx_len]; omega)).symm
  rw [hd]
  unfold ovl
  rw [tx_pad, ← Crc.tx_len s, pad_take, pad_drop]
  simp
theorem fileT_file {t : List Th} {p : ByteArray} {n : Nm} {i : Nat} {s : ByteArray} (h : IsFile t p n i s) : datT t (fileT t p).1.toNat = s ∧ (fileT t p).1.toNat = i ∧ (fileT t p).2 = 0 := by
  rw [h.file]
  refine ⟨?_, rfl, rfl⟩
  obtain ⟨hi, h2⟩ := T_fi h.ne h.fi
  rw [h.at'] at h2
  injection h2 with h2
  show datT t i = s
  unfold Tre.datT
  rw [List.getElem?_eq_getElem hi]
  exact (congrArg Prod.snd h2).symm
theorem Wf.fsize {t : List Th} (h : Wf t) {n : Nm} {d : Bool} {s : ByteArray} (hv : T t n = some (d, s)) : s.size ≤ 268435456 := by
  by_cases h0 : n = []
  · rw [h0, T_root] at hv
    injection hv with hv
    injection hv with _ hv
    rw [← hv]
    decide
  · exact h.size _ (T_mem h0 hv)

set_option maxRecDepth 100000 in
set_option maxHeartbeats 1000000 in
theorem wr_any (w : World) (N b0 : Nat) (t : List Th) (L : Nm → Nd) (p : ByteArray) (x : Int) (m c : Nat) (B : Option Addr) (bs : List Nat) (hM : Mem w N t L) (hb : (L []).b = b0) (hW : Wf t) (hp : p.size < 4294967281)
    (hm : bs.length = m) (hml : m ≤ 1000000) (hB : Crc.Bts w B bs) (hap : ∀ ad, B = some ad → bs ≠ [] → ¬ Fp t L ad.block) :
    Calls Tryd.prog 19 #[.pointer (some ⟨b0, 0, none⟩), .string p, .int .i64 x, .slice B m c] w fun e w' => e = .returned (.int .i64 (writeT t p x (Crc.str bs)).2) ∧ TrkR w N t L (writeT t p x (Crc.str bs)).1 w' := by
  have HM := Lib.hid hM
  have HB := Lib.hid hB
  have HAP := Lib.hid hap
  have HL := Lib.hid hm
  have hbz : (Crc.str bs).size = m := by rw [Crc.str_size, hm]
  have HZ0 := Lib.hid (show writeT t p x (Crc.str bs) = if (fileT t p).2 ≠ 0 then (t, (fileT t p).2) else if x < 0 ∨ 268435456 < x ∨ 268435456 < x + (m : Int) then (t, 9) else if m = 0 then (t, 0) else (setT t (fileT t p).1.toNat (wrT (datT t (fileT t p).1.toNat) x (Crc.str bs)), 0) by
    unfold Tre.writeT
    rw [hbz])
  clear hM hB hap hm hbz
  go_enter Tryd.func19, Tryd.ntmps19
  go_wp2_with fail
  refine (fileAt_any w N b0 t L p HM.out hb hp).mono ?_
  rintro e w1 ⟨hf, hb1⟩
  have HB1 := Lib.hid hb1
  have HM1 := Lib.hid (HM.out.keep hb1)
  clear hb1
  rcases hf with ⟨he, rfl⟩ | ⟨n, i, s, hf, rfl⟩
  · have HZ := Lib.hid (show writeT t p x (Crc.str bs) = (t, (fileT t p).2) by rw [HZ0.out, if_pos he])
    generalize hg : (fileT t p).2 = g at *
    clear hg
    go_wp2
    refine bodyPost_ret (v := .int .i64 g) ?_ rfl ⟨by rw [HZ.out], by rw [HZ.out]; exact TrkR.same HM.out HB1.out⟩
    simp [results, Tryd.results19, go_sem]
  · obtain ⟨f1, f2, f3⟩ := fileT_file hf
    have HF := Lib.hid hf
    have HZ1 := Lib.hid (show writeT t p x (Crc.str bs) = if x < 0 ∨ 268435456 < x ∨ 268435456 < x + (m : Int) then (t, 9) else if m = 0 then (t, 0) else (setT t i (wrT s x (Crc.str bs)), 0) by rw [HZ0.out, if_neg (fun h => h f3), f1, f2])
    clear f1 f2 f3 hf
    by_cases hx : x < 0 ∨ 268435456 < x ∨ 268435456 < x + (m : Int)
    · have HZ := Lib.hid (HZ1.out.trans (if_pos hx))
      by_cases hx0 : x < 0
      · clear hx
        go_wp2
        refine bodyPost_ret (v := .int .i64 9) ?_ rfl ⟨by rw [HZ.out], by rw [HZ.out]; exact TrkR.same HM.out HB1.out⟩
        simp [results, Tryd.results19, go_sem]
      · have hx1 : 268435456 - (m : Int) < x := by omega
        clear hx
        go_wp2
        refine bodyPost_ret (v := .int .i64 9) ?_ rfl ⟨by rw [HZ.out], by rw [HZ.out]; exact TrkR.same HM.out HB1.out⟩
        simp [results, Tryd.results19, go_sem]
    · obtain ⟨a, rfl⟩ : ∃ a : Nat, x = (a : Int) := ⟨x.toNat, by omega⟩
      have hx0 : ¬ (a : Int) < 0 := by omega
      have hx1 : ¬ 268435456 - (m : Int) < (a : Int) := by omega
      have hx2 : a + m ≤ 268435456 := by omega
      have HZ := Lib.hid (HZ1.out.trans (if_neg hx))
      have HN := Lib.hid (HM1.out.nod _ _ _ HF.out.at')
      have HTW := Lib.hid (twrite_any w1 N (L n) (kb t L n) false s a m c B bs HN.out (HM1.out.one _ _ HF.out.at') (hW.fsize HF.out.at') HL.out hx2 (HB.out.keep HB1.out) (fun ad e h0 h => HAP.out ad e h0 ⟨n, _, HF.out.at', h⟩))
      clear hx
      generalize hy : L n = y at *
      go_wp2_with fail
      refine HTW.out.mono ?_
      rintro e w2 ⟨rfl, hr⟩
      have HR := Lib.hid (show TrkR w N t L (writeT t p (a : Int) (Crc.str bs)).1 w2 from by
        rw [← hy] at hr
        refine TrkR.after HB1.out ?_
        rw [HZ.out]
        by_cases h0 : m = 0
        · have hb0 : bs = [] := List.eq_nil_of_length_eq_zero (by rw [HL.out]; exact h0)
          rw [if_pos h0]
          unfold ovr at hr
          rw [if_pos hb0] at hr
          obtain ⟨A', c', q1, q2, q3⟩ := HM1.out.dat HF.out.at' (t' := t) (s' := s) (fun k => by
            by_cases e : k = n
            · rw [if_pos e, e, HF.out.at']
            · rw [if_neg e]) hr
          exact ⟨q2, _, q1.mono (Nat.le_succ N), Ld_b, q3⟩
        · have hb0 : bs ≠ [] := fun e => h0 (by rw [← HL.out, e]; rfl)
          rw [if_neg h0]
          rw [ovr_wr HB.out.byt hb0] at hr
          obtain ⟨A', c', q1, q2, q3⟩ := HM1.out.dat HF.out.at' (t' := setT t i (wrT s (a : Int) (Crc.str bs))) (T_set HF.out.ne HF.out.fi HF.out.at' _) hr
          exact ⟨q2, _, q1.mono (Nat.le_succ N), Ld_b, q3⟩)
      have HZ2 := Lib.hid (show (writeT t p (a : Int) (Crc.str bs)).2 = 0 by rw [HZ.out]; split <;> rfl)
      clear hr
      go_wp2
      refine bodyPost_ret (v := .int .i64 0) ?_ rfl ⟨by rw [HZ2.out], HR.out⟩
      simp [results, Tryd.results19, go_sem]
end Trk
end Go.Proofs.YtkhkcfbacnkcnaaDoor
