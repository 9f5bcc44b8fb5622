/- Texts laid together: ModEq, TreMath, PatCut, PatLay, PatSplit, PatSplitP, EntRef, EntRefDec, EntLives, PatLives, PatPar, PatParLaw, PatKids, TreMem, PatJoin, PatRefSplit, TreGo, TreFile. -/
import Derived.Test.YtkhkcfbacnkcnaaGreatDoorMc1
import Derived.Lib.SliceRun
import Derived.Lib.SplitLaws
import Derived.Lib.IndexBytes
import Derived.Lib.Join
import Derived.Shelf.Strings.Split
import Derived.Shelf.Strings.OnBuilder
import Derived.Ground.NamesProg
import Derived.Test.YtkhkcfbacnkcnaaGreatDoorProg
import Derived.Laws.IdiomCopy
import Derived.Lib.LazyBuf
import Derived.Deep.RegionHeld3
import Derived.BigCall
/- The program's model: whether two answers are the same. -/
namespace Go.Proofs.YtkhkcfbacnkcnaaGreatDoor
open Go.RowKit Go.MapKept
namespace Mod
open Pat (Txs)

set_option maxHeartbeats 2000000 in
theorem strEq_core (w : World) (A B : Option Addr) (c d : Nat) (x y : List ByteArray) (hx : Txs w A x) (hy : Txs w B y) :
    Calls Tryz.prog 61 #[.slice A x.length c, .slice B y.length d] w fun e w' => e = .returned (.bool (decide (x = y))) ∧ ∃ n, w' = w.drewN n := by
  have hxl := hx.len
  have hyl := hy.len
  have HX := Lib.hid hx
  have HY := Lib.hid hy
  clear hx hy
  by_cases hl : x.length = y.length
  · have hne : ((x.length : Int) == (y.length : Int)) = true := by rw [hl]; exact beq_self_eq_true _
    go_enter Tryz.func61, Tryz.ntmps61
    go_wp2
    go_loopw [13] (fun i wr => ∃ k : Nat, k ≤ x.length ∧ i = .int .i64 (k : Int) ∧ (∃ n, wr = w.drewN n) ∧ x.take k = y.take k) (fun i _ => x.length - (intOf i).toNat)
    case atStart => exact ⟨0, Nat.zero_le _, rfl, ⟨0, rfl⟩, rfl⟩
    case round =>
      obtain ⟨k, hk, rfl, ⟨n, hw⟩, hc⟩ := hrel
      have HC := Lib.hid hc
      clear hc
      by_cases hlt : k < x.length
      · have hlt' : k < y.length := by omega
        obtain ⟨b, o, rfl, _, hc0⟩ := (show Txs wr A x by rw [hw]; exact HX.out.drewN n).at' k hlt
        obtain ⟨b', o', rfl, _, hd0⟩ := (show Txs wr B y by rw [hw]; exact HY.out.drewN n).at' k hlt'
        have HW := Lib.hid hw
        clear hw
        have hi0 : (0 : Int) ≤ (k : Int) := by omega
        have hi1 : (k : Int) < (x.length : Int) := by omega
        have hi2 : (k : Int) < (y.length : Int) := by omega
        by_cases e : x[k] = y[k]
        · have HS := Lib.hid (Pat.take_same hlt hlt' e HC.out)
          generalize x[k] = s at *
          generalize y[k] = t at *
          subst e
          go_wp2_with fail
          go_quiet (fail)
          go_wp2
          refine ⟨⟨k + 1, by omega, by go_num, ?_, HS.out⟩, by simp [intOf]; omega⟩
          rw [HW.out]
          exact ⟨n + nq, by rw [World.drewN_drewN]⟩
        · have HZ := Lib.hid (show decide (x = y) = false from decide_eq_false (fun h => e (by subst h; rfl)))
          generalize x[k] = s at *
          generalize y[k] = t at *
          have h0 : ¬ s.toList = t.toList := fun h => e (Pat.toList_inj h)
          have h1 : (s.toList == t.toList) = false := by simpa using h0
          go_wp2_with fail
          go_quiet (fail)
          go_wp2
          go_ret
          refine ⟨by rw [HZ.out]; rfl, ?_⟩
          rw [HW.out]
          exact ⟨_, by rw [World.drewN_drewN]⟩
      · obtain rfl : k = x.length := by omega
        have HE := Lib.hid (show decide (x = y) = true from decide_eq_true (by
          have := HC.out
          rw [List.take_length, hl, List.take_length] at this
          exact this))
        have HW := Lib.hid hw
        clear hw
        go_wp2
        go_ret
        exact ⟨by rw [HE.out]; rfl, n, HW.out⟩
  · have hne : ((x.length : Int) == (y.length : Int)) = false := beq_eq_false_iff_ne.2 (by omega)
    have hne2 : ¬ (x.length : Int) = (y.length : Int) := by omega
    have HE := Lib.hid (show decide (x = y) = false from decide_eq_false (fun h => hl (by rw [h])))
    go_enter Tryz.func61, Tryz.ntmps61
    go_wp2
    go_ret
    exact ⟨by rw [HE.out]; rfl, 0, rfl⟩

theorem strEq_any (w : World) (A B : Option Addr) (c d n m : Nat) (x y : List ByteArray) (hn : x.length = n) (hm : y.length = m) (hx : Txs w A x) (hy : Txs w B y) :
    Calls Tryz.prog 61 #[.slice A n c, .slice B m d] w fun e w' => e = .returned (.bool (decide (x = y))) ∧ Below w.heap.size w w' := by
  subst hn hm
  refine (strEq_core w A B c d x y hx hy).mono fun e w' h => ⟨h.1, ?_⟩
  obtain ⟨_, k, rfl⟩ := h
  exact Pat.below_drewN (Below.refl _ _) k

/-- an answer as it lies -/
structure An where
  e : Int
  a : Option Addr
  c : Nat
  d : List Nat
  g : Option Addr
  k : Nat
  n : List ByteArray
abbrev An.val (x : An) : Value := .agg #[.int .i64 x.e, .slice x.a x.d.length x.c, .slice x.g x.n.length x.k]
structure AnOk (w : World) (x : An) : Prop where
  bts : Crc.Bts w x.a x.d
  txs : Txs w x.g x.n
theorem AnOk.keep {w w' : World} {x : An} (h : AnOk w x) (hb : Below w.heap.size w w') : AnOk w' x := ⟨h.bts.keep hb, h.txs.keep hb⟩
/-- the same error, bytes, names -/
def same (x y : An) : Bool := decide (x.e = y.e ∧ x.d = y.d ∧ x.n = y.n)

set_option maxRecDepth 100000 in
set_option maxHeartbeats 2000000 in
theorem same_any (w : World) (x y : An) (hx : AnOk w x) (hy : AnOk w y) :
    Calls Tryz.prog 27 #[x.val, y.val] w fun e w' => e = .returned (.bool (same x y)) ∧ Below w.heap.size w w' := by
  obtain ⟨xe, xa, xc, xd, xg, xk, xn⟩ := x
  obtain ⟨ye, ya, yc, yd, yg, yk, yn⟩ := y
  have hb0 := ((Below.refl w.heap.size w).alloc (Nat.le_refl _) (.cells #[.int .i64 xe, .slice xa xd.length xc, .slice xg xn.length xk] 64)).alloc (by simp) (.cells #[.int .i64 ye, .slice ya yd.length yc, .slice yg yn.length yk] 64)
  have HB0 := Lib.hid hb0
  have HX := Lib.hid (hx.keep hb0)
  have HY := Lib.hid (hy.keep hb0)
  clear hb0 hx hy
  unfold An.val
  simp only
  generalize hxdl : xd.length = xdl at *
  generalize hydl : yd.length = ydl at *
  generalize hxnl : xn.length = xnl at *
  generalize hynl : yn.length = ynl at *
  have HL := Lib.hid (show xdl = xd.length ∧ ydl = yd.length ∧ xnl = xn.length ∧ ynl = yn.length from ⟨hxdl.symm, hydl.symm, hxnl.symm, hynl.symm⟩)
  clear hxdl hydl hxnl hynl
  have HS := Lib.hid (show same ⟨xe, xa, xc, xd, xg, xk, xn⟩ ⟨ye, ya, yc, yd, yg, yk, yn⟩ = decide (xe = ye ∧ xd = yd ∧ xn = yn) from rfl)
  go_enter Tryz.func27, Tryz.ntmps27
  by_cases h1 : xe = ye
  · subst h1
    have hE := Ent.equal_any _ xa ya xc yc xdl ydl xd yd HX.out.bts HY.out.bts HL.out.1 HL.out.2.1
    have HE := Lib.hid hE
    clear hE
    go_wp2_with fail
    refine HE.out.mono ?_
    rintro e w1 ⟨rfl, rfl⟩
    by_cases h2 : xd = yd
    · rw [decide_eq_true h2]
      have hN := strEq_any _ xg yg xk yk xnl ynl xn yn HL.out.2.2.1.symm HL.out.2.2.2.symm HX.out.txs HY.out.txs
      have HN := Lib.hid hN
      have HZ := Lib.hid (show decide (xe = xe ∧ xd = yd ∧ xn = yn) = decide (xn = yn) by simp [h2])
      clear hN h2
      go_wp2_with fail
      refine HN.out.mono ?_
      rintro e w2 ⟨rfl, hb2⟩
      have HB2 := Lib.hid (HB0.out.trans (hb2.mono HB0.out.size))
      clear hb2
      have HT := Lib.hid (HS.out.trans HZ.out)
      clear HS HZ
      generalize decide (xn = yn) = q at *
      go_wp2
      go_ret
      exact ⟨by rw [HT.out]; rfl, HB2.out⟩
    · rw [decide_eq_false h2]
      have HZ := Lib.hid (show decide (xe = xe ∧ xd = yd ∧ xn = yn) = false from decide_eq_false (fun h => h2 h.2.1))
      clear h2
      go_wp2
      go_ret
      exact ⟨by rw [HS.out, HZ.out]; rfl, HB0.out⟩
  · have HZ := Lib.hid (show decide (xe = ye ∧ xd = yd ∧ xn = yn) = false from decide_eq_false (fun h => h1 h.1))
    have h3 : (xe == ye) = false := beq_eq_false_iff_ne.2 h1
    go_wp2
    go_ret
    exact ⟨by rw [HS.out, HZ.out]; rfl, HB0.out⟩
end Mod
end Go.Proofs.YtkhkcfbacnkcnaaGreatDoor
/- The document's tree as a row of things: where one stands, what going to names tells, a directory's names, the order. Of no program. -/
namespace Go.Proofs.YtkhkcfbacnkcnaaGreatDoor
open Go.RowKit Go.MapKept
namespace Tre

abbrev Nm := List ByteArray
/-- a thing: its names, whether it is a directory, its bytes -/
abbrev Th := Nm × Bool × ByteArray

/-- where a thing with these names stands -/
def fi (t : List Th) (n : Nm) : Option Nat := t.findIdx? (fun x => decide (x.1 = n))
/-- as the document tells it -/
def fv (t : List Th) (n : Nm) : Int := match fi t n with | some i => (i : Int) | none => -1
theorem fi_some {t : List Th} {n : Nm} {i : Nat} (h : fi t n = some i) : ∃ h : i < t.length, t[i].1 = n ∧ ∀ j (hj : j < i), (t[j]'(by omega)).1 ≠ n := by
  unfold fi at h
  rw [List.findIdx?_eq_some_iff_getElem] at h
  obtain ⟨h1, h2, h3⟩ := h
  exact ⟨h1, by simpa using h2, fun j hj => by simpa using h3 j hj⟩
theorem fi_at {t : List Th} {n : Nm} {i : Nat} (h : i < t.length) (e : t[i].1 = n) (hj : ∀ j (h' : j < i), (t[j]'(by omega)).1 ≠ n) : fi t n = some i := by
  unfold fi
  rw [List.findIdx?_eq_some_iff_getElem]
  exact ⟨h, by simpa using e, fun j h' => by simpa using hj j h'⟩
theorem fi_none {t : List Th} {n : Nm} (h : ∀ j (hj : j < t.length), t[j].1 ≠ n) : fi t n = none := by
  unfold fi
  rw [List.findIdx?_eq_none_iff]
  intro x hx
  obtain ⟨j, hj, rfl⟩ := List.getElem_of_mem hx
  simpa using h j hj

/-- is the thing at i a directory? -/
def isDirAt (t : List Th) (i : Nat) : Bool := match t[i]? with | some x => x.2.1 | none => false
/-- is it a directory (the root is)? -/
def dirT (t : List Th) (n : Nm) : Bool := if n = [] then true else match fi t n with | some i => isDirAt t i | none => false

/-- what going to names tells from the n-th on -/
def goF (t : List Th) (n : Nm) : Nat → Nat → Int
  | 0, _ => 0
  | f + 1, k => match fi t (n.take k) with
    | none => 4
    | some i => if k < n.length ∧ isDirAt t i = false then 6 else goF t n f (k + 1)
def goT (t : List Th) (n : Nm) : Int := goF t n n.length 1
end Tre
end Go.Proofs.YtkhkcfbacnkcnaaGreatDoor
/- A text cut at each 47, names put together to a path: of no program. -/
namespace Go.Proofs.YtkhkcfbacnkcnaaGreatDoor
open Go.RowKit Go.MapKept
namespace Pat

/-- a piece's bytes ahead of the first one's -/
def glue (x : List UInt8) : List (List UInt8) → List (List UInt8)
  | [] => [x]
  | p :: ps => (x ++ p) :: ps
/-- cut at each 47 -/
def cut : List UInt8 → List (List UInt8)
  | [] => [[]]
  | b :: l => if b = 47 then [] :: cut l else glue [b] (cut l)
theorem glue_glue (x y : List UInt8) (c : List (List UInt8)) : glue x (glue y c) = glue (x ++ y) c := by
  cases c <;> simp [glue]
theorem glue_none {c : List (List UInt8)} (h : c ≠ []) : glue [] c = c := by
  cases c with
  | nil => exact absurd rfl h
  | cons => rfl
theorem glue_len (x : List UInt8) {c : List (List UInt8)} (h : c ≠ []) : (glue x c).length = c.length := by
  cases c with
  | nil => exact absurd rfl h
  | cons => rfl
theorem cut_ne : ∀ l, cut l ≠ []
  | [] => by simp [cut]
  | b :: l => by
    rw [cut]
    split
    · simp
    · cases cut l <;> simp [glue]
theorem cut_len : ∀ l, (cut l).length ≤ l.length + 1
  | [] => by simp [cut]
  | b :: l => by
    have := cut_len l
    rw [cut]
    split
    · simp; omega
    · rw [glue_len _ (cut_ne l)]; simp; omega

/-- where the first 47 stands -/
theorem cut_at : ∀ l, (Lib.indexByte l 47 = -1 → cut l = [l]) ∧ ∀ i : Nat, Lib.indexByte l 47 = (i : Int) → cut l = l.take i :: cut (l.drop (i + 1))
  | [] => ⟨fun _ => rfl, fun i h => by
    rw [Lib.indexByte] at h
    omega⟩
  | b :: l => by
    obtain ⟨h1, h2⟩ := cut_at l
    have hge := Lib.indexByte_ge l 47
    rw [cut, Lib.indexByte]
    by_cases hb : b = 47
    · subst hb
      rw [if_pos rfl, if_pos (by simp)]
      refine ⟨fun h => by omega, fun i h => ?_⟩
      obtain rfl : i = 0 := by omega
      simp
    · rw [if_neg hb, if_neg (by simpa using hb)]
      by_cases hm : Lib.indexByte l 47 = -1
      · rw [hm, if_pos (by simp), h1 hm]
        exact ⟨fun _ => rfl, fun i h => by omega⟩
      · rw [if_neg (by simpa using hm)]
        refine ⟨fun h => by omega, fun i h => ?_⟩
        obtain ⟨j, rfl⟩ : ∃ j, i = j + 1 := ⟨i - 1, by omega⟩
        rw [h2 j (by omega)]
        simp [glue]
theorem splitK_few : ∀ (k : Nat) (l : List UInt8), (cut l).length ≤ k + 1 → Lib.splitK [47] 0 k l = cut l
  | 0, l, h => by
    rw [Lib.splitK]
    rcases Int.lt_or_le (Lib.indexByte l 47) 0 with hi | hi
    · have := Lib.indexByte_ge l 47
      rw [(cut_at l).1 (by omega)]
    · obtain ⟨i, hi⟩ := Int.eq_ofNat_of_zero_le hi
      rw [(cut_at l).2 i hi] at h
      have := cut_ne (l.drop (i + 1))
      have := List.length_pos_iff.2 this
      rw [List.length_cons] at h
      omega
  | k + 1, l, h => by
    rw [Lib.splitK, Lib.index_one]
    rcases Int.lt_or_le (Lib.indexByte l 47) 0 with hi | hi
    · have := Lib.indexByte_ge l 47
      have hm : Lib.indexByte l 47 = -1 := by omega
      rw [hm, if_pos (by decide), (cut_at l).1 hm]
    · obtain ⟨i, hi⟩ := Int.eq_ofNat_of_zero_le hi
      have hc := (cut_at l).2 i hi
      rw [hc] at h
      rw [hi, if_neg (by simp), hc, splitK_few k _ (by simp at h ⊢; omega)]
      simp
theorem splitK_many : ∀ (k : Nat) (l : List UInt8), k + 1 ≤ (cut l).length → (Lib.splitK [47] 0 k l).length = k + 1
  | 0, l, _ => rfl
  | k + 1, l, h => by
    rw [Lib.splitK, Lib.index_one]
    rcases Int.lt_or_le (Lib.indexByte l 47) 0 with hi | hi
    · have := Lib.indexByte_ge l 47
      rw [(cut_at l).1 (by omega)] at h
      simp at h
    · obtain ⟨i, hi⟩ := Int.eq_ofNat_of_zero_le hi
      rw [(cut_at l).2 i hi] at h
      rw [hi, if_neg (by simp), List.length_cons]
      have := splitK_many k (l.drop (i + 1)) (by simp at h; omega)
      simpa using this

/-- the text of bytes -/
abbrev mk (l : List UInt8) : ByteArray := ⟨l.toArray⟩
theorem mk_data (s : ByteArray) : mk s.data.toList = s := rfl
theorem data_mk (l : List UInt8) : (mk l).data.toList = l := by simp
theorem map_mk (m : List ByteArray) : (m.map (·.data.toList)).map mk = m := by
  rw [List.map_map]
  have : (mk ∘ fun s : ByteArray => s.data.toList) = id := rfl
  rw [this, List.map_id]
theorem map_data (m : List (List UInt8)) : (m.map mk).map (·.data.toList) = m := by
  rw [List.map_map]
  have : ((fun s : ByteArray => s.data.toList) ∘ mk) = id := by
    funext l
    exact data_mk l
  rw [this, List.map_id]

/-- these are a path's names -/
def IsNames (l : List ByteArray) : Prop := l.length ≤ 64 ∧ ∀ n ∈ l, Ent.Right (Crc.tx n)
instance (l : List ByteArray) : Decidable (IsNames l) := by unfold IsNames; infer_instance
def isNames (l : List ByteArray) : Bool := decide (IsNames l)

/-- a path's names -/
def spl (s : ByteArray) : Option (List ByteArray) :=
  match s.data.toList with
  | [] => none
  | b :: r => if b = 47 then (if r = [] then some [] else if IsNames ((cut r).map mk) then some ((cut r).map mk) else none) else none
/-- names' path -/
def pth (l : List ByteArray) : ByteArray := if l = [] then mk [47] else mk (Lib.joinTail [47] (l.map (·.data.toList)))

theorem joinTail_cons (x : List UInt8) (r : List (List UInt8)) : Lib.joinTail [47] (x :: r) = 47 :: (x ++ Lib.joinTail [47] r) := by
  simp [Lib.joinTail]
theorem joinTail_snoc (r : List (List UInt8)) (x : List UInt8) : Lib.joinTail [47] (r ++ [x]) = Lib.joinTail [47] r ++ [47] ++ x := by
  simp [Lib.joinTail]
theorem tail_glue (x : List UInt8) {c : List (List UInt8)} (h : c ≠ []) : Lib.joinTail [47] (glue x c) = 47 :: (x ++ (Lib.joinTail [47] c).drop 1) := by
  cases c with
  | nil => exact absurd rfl h
  | cons p ps => rw [glue, joinTail_cons, joinTail_cons]; simp
theorem tail_cut : ∀ l, Lib.joinTail [47] (cut l) = 47 :: l
  | [] => by simp [cut, Lib.joinTail]
  | b :: l => by
    rw [cut]
    split
    · rename_i hb
      rw [joinTail_cons, tail_cut l, hb]
      rfl
    · rw [tail_glue _ (cut_ne l), tail_cut l]
      rfl
theorem cut_plain : ∀ (x l : List UInt8), (∀ b ∈ x, b ≠ 47) → cut (x ++ l) = glue x (cut l)
  | [], l, _ => (glue_none (cut_ne l)).symm
  | b :: x, l, h => by
    rw [List.cons_append, cut, if_neg (h b (by simp)), cut_plain x l (fun c hc => h c (by simp [hc])), glue_glue]
    rfl
theorem cut_tail : ∀ (r : List (List UInt8)) (x : List UInt8), (∀ b ∈ x, b ≠ 47) → (∀ y ∈ r, ∀ b ∈ y, b ≠ 47) → cut (x ++ Lib.joinTail [47] r) = x :: r
  | [], x, hx, _ => by
    have := cut_plain x [] hx
    rw [show Lib.joinTail [47] [] = [] from rfl, this]
    simp [cut, glue]
  | y :: r, x, hx, hr => by
    rw [cut_plain _ _ hx, joinTail_cons, cut, if_pos rfl, cut_tail r y (hr y (by simp)) (fun z hz => hr z (by simp [hz]))]
    simp [glue]

theorem right_plain {s : ByteArray} (h : Ent.Right (Crc.tx s)) : (∀ b ∈ s.data.toList, b ≠ 47) ∧ s.data.toList ≠ [] := by
  refine ⟨fun b hb e => ?_, fun e => ?_⟩
  · have : b.toNat ∈ Crc.tx s := List.mem_map_of_mem hb
    have := (h.2.2.2 _ this).2
    subst e
    exact this rfl
  · have := h.1.1
    unfold Crc.tx at this
    rw [e] at this
    simp at this
theorem spl_pth {l : List ByteArray} (h : IsNames l) : spl (pth l) = some l := by
  cases l with
  | nil => rfl
  | cons x r =>
    have hx := right_plain (h.2 x (by simp))
    have e : (pth (x :: r)).data.toList = 47 :: (x.data.toList ++ Lib.joinTail [47] (r.map (·.data.toList))) := by
      unfold pth
      rw [if_neg (by simp), data_mk, List.map_cons, joinTail_cons]
    have hc := cut_tail (r.map (·.data.toList)) x.data.toList hx.1 (fun y hy => by
      obtain ⟨z, hz, rfl⟩ := List.mem_map.1 hy
      exact (right_plain (h.2 z (by simp [hz]))).1)
    have hm : (cut (x.data.toList ++ Lib.joinTail [47] (r.map (·.data.toList)))).map mk = x :: r := by
      rw [hc]
      exact map_mk (x :: r)
    unfold spl
    rw [e]
    simp only [if_true]
    rw [if_neg (by simp [hx.2]), hm, if_pos h]
theorem pth_spl {s : ByteArray} {l : List ByteArray} (h : spl s = some l) : IsNames l ∧ pth l = s := by
  unfold spl at h
  split at h
  · cases h
  · rename_i b r e
    split at h
    · rename_i hb
      subst hb
      split at h
      · rename_i hr
        subst hr
        injection h with h
        subst h
        refine ⟨⟨by simp, fun n hn => by simp at hn⟩, ?_⟩
        rw [← mk_data s, e]
        rfl
      · split at h
        · rename_i hi
          injection h with h
          subst h
          refine ⟨hi, ?_⟩
          unfold pth
          rw [if_neg (by simp [cut_ne]), map_data, tail_cut, ← e, mk_data]
        · cases h
    · cases h
theorem pth_join (l : List ByteArray) : pth l = mk (47 :: Lib.join (l.map (·.data.toList)) [47]) := by
  cases l with
  | nil => rfl
  | cons x r =>
    unfold pth
    rw [if_neg (by simp), List.map_cons, joinTail_cons, Lib.join_cons]
end Pat
end Go.Proofs.YtkhkcfbacnkcnaaGreatDoor
/- The library's bodies (strings.SplitN, strings.Join) as they stand in this program, in plain words. -/
namespace Go.Proofs
open Go.Shelf
def Tryz.splitA_ren : Go.Shelf.Ren := ⟨fun | 147 => 86 | 221 => 97 | 268 => 111 | 138 => 112 | 143 => 113 | 195 => 121 | 197 => 122 | 218 => 123 | 219 => 124 | 260 => 138 | 217 => 139 | 225 => 140 | 224 => 141 | 267 => 142 | 266 => 149 | 314 => 150 | n => n, fun | 9 => 9 | 3 => 3 | 31 => 33 | 4 => 4 | 0 => 0 | 105 => 174 | 21 => 21 | 5 => 5 | 46 => 172 | 119 => 198 | 139 => 201 | 138 => 200 | 146 => 202 | 51 => 149 | n => n, fun | 1 => 0 | 3 => 1 | 4 => 2 | n => n⟩
theorem Tryz.splitA : Go.Proofs.Lays.n147 Tryz.prog Tryz.splitA_ren := {
  mixed := by kernel_rfl
  f138 := Tryz.func112.trans (congrArg some (by kernel_rfl))
  f143 := Tryz.func113.trans (congrArg some (by kernel_rfl))
  f147 := Tryz.func86.trans (congrArg some (by kernel_rfl))
  f195 := Tryz.func121.trans (congrArg some (by kernel_rfl))
  f197 := Tryz.func122.trans (congrArg some (by kernel_rfl))
  f217 := Tryz.func139.trans (congrArg some (by kernel_rfl))
  f218 := Tryz.func123.trans (congrArg some (by kernel_rfl))
  f219 := Tryz.func124.trans (congrArg some (by kernel_rfl))
  f221 := Tryz.func97.trans (congrArg some (by kernel_rfl))
  f224 := Tryz.func141.trans (congrArg some (by kernel_rfl))
  f225 := Tryz.func140.trans (congrArg some (by kernel_rfl))
  f260 := Tryz.func138.trans (congrArg some (by kernel_rfl))
  f266 := Tryz.func149.trans (congrArg some (by kernel_rfl))
  f267 := Tryz.func142.trans (congrArg some (by kernel_rfl))
  f268 := Tryz.func111.trans (congrArg some (by kernel_rfl))
  f314 := Tryz.func150.trans (congrArg some (by kernel_rfl))
  t0 := Tryz.underlying0
  a0 := Tryz.isAgg0
  z0 := Tryz.sizeOf0
  v0 := Tryz.zeroValue0
  t3 := Tryz.underlying3
  a3 := Tryz.isAgg3
  z3 := Tryz.sizeOf3
  v3 := Tryz.zeroValue3
  t4 := Tryz.underlying4
  a4 := Tryz.isAgg4
  z4 := Tryz.sizeOf4
  v4 := Tryz.zeroValue4
  t5 := Tryz.underlying5
  a5 := Tryz.isAgg5
  z5 := Tryz.sizeOf5
  v5 := Tryz.zeroValue5
  t9 := Tryz.underlying9
  a9 := Tryz.isAgg9
  z9 := Tryz.sizeOf9
  v9 := Tryz.zeroValue9
  t21 := Tryz.underlying21
  a21 := Tryz.isAgg21
  z21 := Tryz.sizeOf21
  v21 := Tryz.zeroValue21
  t31 := Tryz.underlying33
  a31 := Tryz.isAgg33
  z31 := Tryz.sizeOf33
  v31 := Tryz.zeroValue33
  t46 := Tryz.underlying172
  a46 := Tryz.isAgg172
  z46 := Tryz.sizeOf172
  v46 := Tryz.zeroValue172
  t51 := Tryz.underlying149
  a51 := Tryz.isAgg149
  z51 := Tryz.sizeOf149
  v51 := Tryz.zeroValue149
  t105 := Tryz.underlying174
  a105 := Tryz.isAgg174
  z105 := Tryz.sizeOf174
  v105 := Tryz.zeroValue174
  t119 := Tryz.underlying198
  a119 := Tryz.isAgg198
  z119 := Tryz.sizeOf198
  t138 := Tryz.underlying200
  a138 := Tryz.isAgg200
  z138 := Tryz.sizeOf200
  v138 := Tryz.zeroValue200
  t139 := Tryz.underlying201
  a139 := Tryz.isAgg201
  z139 := Tryz.sizeOf201
  v139 := Tryz.zeroValue201
  t146 := Tryz.underlying202
  a146 := Tryz.isAgg202
  z146 := Tryz.sizeOf202
  v146 := Tryz.zeroValue202
  g1 := by kernel_rfl
  g3 := by kernel_rfl
  g4 := by kernel_rfl }
def Tryz.joinA_ren : Go.Shelf.Ren := ⟨fun | 156 => 95 | 165 => 107 | 166 => 108 | 169 => 109 | 240 => 119 | 241 => 120 | 276 => 136 | 277 => 137 | n => n, fun | 31 => 33 | 9 => 9 | 3 => 3 | 4 => 4 | 0 => 0 | 20 => 20 | 72 => 156 | 76 => 159 | 70 => 154 | 37 => 30 | 75 => 158 | 127 => 168 | 164 => 188 | 5 => 5 | 80 => 161 | n => n, fun | n => n⟩
theorem Tryz.joinA : Go.Proofs.Lays.n156 Tryz.prog Tryz.joinA_ren := {
  mixed := by kernel_rfl
  f156 := Tryz.func95.trans (congrArg some (by kernel_rfl))
  f165 := Tryz.func107.trans (congrArg some (by kernel_rfl))
  f166 := Tryz.func108.trans (congrArg some (by kernel_rfl))
  f169 := Tryz.func109.trans (congrArg some (by kernel_rfl))
  f240 := Tryz.func119.trans (congrArg some (by kernel_rfl))
  f241 := Tryz.func120.trans (congrArg some (by kernel_rfl))
  f276 := Tryz.func136.trans (congrArg some (by kernel_rfl))
  f277 := Tryz.func137.trans (congrArg some (by kernel_rfl))
  t0 := Tryz.underlying0
  a0 := Tryz.isAgg0
  z0 := Tryz.sizeOf0
  v0 := Tryz.zeroValue0
  t3 := Tryz.underlying3
  a3 := Tryz.isAgg3
  z3 := Tryz.sizeOf3
  v3 := Tryz.zeroValue3
  t4 := Tryz.underlying4
  a4 := Tryz.isAgg4
  z4 := Tryz.sizeOf4
  v4 := Tryz.zeroValue4
  t9 := Tryz.underlying9
  a9 := Tryz.isAgg9
  z9 := Tryz.sizeOf9
  v9 := Tryz.zeroValue9
  t20 := Tryz.underlying20
  a20 := Tryz.isAgg20
  z20 := Tryz.sizeOf20
  v20 := Tryz.zeroValue20
  t31 := Tryz.underlying33
  a31 := Tryz.isAgg33
  z31 := Tryz.sizeOf33
  v31 := Tryz.zeroValue33
  t37 := Tryz.underlying30
  a37 := Tryz.isAgg30
  z37 := Tryz.sizeOf30
  v37 := Tryz.zeroValue30
  t70 := Tryz.underlying154
  a70 := Tryz.isAgg154
  z70 := Tryz.sizeOf154
  v70 := Tryz.zeroValue154
  t72 := Tryz.underlying156
  a72 := Tryz.isAgg156
  z72 := Tryz.sizeOf156
  v72 := Tryz.zeroValue156
  t75 := Tryz.underlying158
  a75 := Tryz.isAgg158
  z75 := Tryz.sizeOf158
  v75 := Tryz.zeroValue158
  t76 := Tryz.underlying159
  a76 := Tryz.isAgg159
  z76 := Tryz.sizeOf159
  v76 := Tryz.zeroValue159
  t127 := Tryz.underlying168
  a127 := Tryz.isAgg168
  z127 := Tryz.sizeOf168
  v127 := Tryz.zeroValue168
  t164 := Tryz.underlying188
  a164 := Tryz.isAgg188
  z164 := Tryz.sizeOf188
  v164 := Tryz.zeroValue188 }
end Go.Proofs
/- The program's Split, and whether texts are a path's names. -/
namespace Go.Proofs.YtkhkcfbacnkcnaaGreatDoor
open Go.RowKit Go.MapKept Go.Shelf
namespace Pat

theorem isNames_no {l : List ByteArray} (h : ¬ IsNames l) : isNames l = false := decide_eq_false h
set_option maxHeartbeats 1000000 in
theorem right_any (w : World) (A : Option Addr) (c n : Nat) (l : List ByteArray) (h : Txs w A l) (hn : l.length = n) :
    Calls Tryz.prog 87 #[.slice A n c] w fun e w' => e = .returned (.bool (isNames l)) ∧ w' = w := by
  subst hn
  have hl := h.len
  have H := Lib.hid h
  clear h
  by_cases h64 : l.length ≤ 64
  · have hg : ¬ (64 : Int) < (l.length : Int) := by omega
    go_enter Tryz.func87, Tryz.ntmps87
    go_wp2
    go_loopw [10] (fun i wr => ∃ k : Nat, k ≤ l.length ∧ i = .int .i64 (k : Int) ∧ wr = w ∧ ∀ s ∈ l.take k, Ent.Right (Crc.tx s)) (fun i _ => l.length - (intOf i).toNat)
    case atStart => exact ⟨0, Nat.zero_le _, rfl, rfl, fun s hs => by simp at hs⟩
    case round =>
      obtain ⟨k, hk, rfl, rfl, hr⟩ := hrel
      have HR := Lib.hid hr
      clear hr
      by_cases hlt : k < l.length
      · obtain ⟨b, o, rfl, _, hc0⟩ := H.out.at' k hlt
        have hs := H.out.size _ (List.getElem_mem hlt)
        have HT := Lib.hid (show l.take (k + 1) = l.take k ++ [l[k]] from List.take_succ_eq_append_getElem hlt)
        have HM := Lib.hid (List.getElem_mem hlt)
        generalize l[k] = s at *
        by_cases hr : Ent.Right (Crc.tx s)
        · have hrb : Ent.right (Crc.tx s) = true := Ent.right_iff.2 hr
          have HX := Lib.hid hr
          clear hr
          go_wp2_with fail
          refine (Ent.right_any _ s hs).mono ?_
          rintro e w' ⟨rfl, rfl⟩
          rw [hrb]
          go_wp2
          refine ⟨⟨k + 1, by omega, by go_num, by first | rfl | trivial, ?_⟩, by simp [intOf]; omega⟩
          rw [HT.out]
          intro x hx
          rcases List.mem_append.1 hx with h1 | h1
          · exact HR.out x h1
          · obtain rfl : x = s := by simpa using h1
            exact HX.out
        · have hrb : Ent.right (Crc.tx s) = false := Ent.right_no hr
          have HX := Lib.hid (isNames_no (l := l) (fun h => hr (h.2 _ HM.out)))
          clear hr
          go_wp2_with fail
          refine (Ent.right_any _ s hs).mono ?_
          rintro e w' ⟨rfl, rfl⟩
          rw [hrb]
          go_wp2
          go_ret
          exact ⟨by rw [HX.out]; rfl, rfl⟩
      · obtain rfl : k = l.length := by omega
        rw [List.take_length] at HR
        have HX := Lib.hid (show isNames l = true from decide_eq_true ⟨h64, HR.out⟩)
        go_wp2
        go_ret
        exact ⟨by rw [HX.out]; rfl, rfl⟩
  · have hg : (64 : Int) < (l.length : Int) := by omega
    have HX := Lib.hid (isNames_no (l := l) (fun h => h64 h.1))
    go_enter Tryz.func87, Tryz.ntmps87
    go_wp2
    go_ret
    exact ⟨by rw [HX.out]; rfl, rfl⟩

/-! The library's SplitN at one byte. -/
theorem index_one (w : World) (x : ByteArray) (c : Array Value) (t : TypeId) : Calls Tryz.prog 113 #[.string x, .string ⟨#[47]⟩] (w.alloc (.cells c t)) fun e w' => e = .returned (.int .i64 (Lib.indexB x ⟨#[47]⟩)) ∧ w' = w.alloc (.cells c t) :=
  (Any.strings_Index_one { Tryz.splitA with } x 47 (w.alloc (.cells c t))).mono fun e w' ⟨he, hw⟩ => ⟨by
    rw [he]
    show _ = Ending.returned (Value.int .i64 (Lib.index x.data.toList [47]))
    rw [Lib.index_one], hw⟩
theorem count_one (w : World) (s : ByteArray) : Calls Tryz.prog 112 #[.string s, .string ⟨#[47]⟩] w fun e w' => e = .returned (.int .i64 (Lib.countB s ⟨#[47]⟩)) ∧ w' = w :=
  (Any.strings_Count_one { Tryz.splitA with } s 47 w).mono fun e w' ⟨he, hw⟩ => ⟨by
    rw [he]
    show _ = Ending.returned (Value.int .i64 ((Lib.count s.data.toList [47] : Nat) : Int))
    rw [Lib.count_one]
    rfl, hw⟩
/-- what 65 pieces at most come to -/
theorem pieces_few {s : ByteArray} (h : (cut s.data.toList).length ≤ 64) : Lib.splitB ⟨#[47]⟩ 0 (min 65 (s.size + 1) - 1) s = (cut s.data.toList).map mk := by
  have h1 := Lib.splitB_data ⟨#[47]⟩ 0 (min 65 (s.size + 1) - 1) s
  have hl := cut_len s.data.toList
  rw [← Lib.size_eq] at hl
  have h2 : Lib.splitK [47] 0 (min 65 (s.size + 1) - 1) s.data.toList = cut s.data.toList := splitK_few _ _ (by omega)
  have h3 := congrArg (List.map mk) (h1.trans h2)
  rw [map_mk] at h3
  exact h3
theorem pieces_many {s : ByteArray} (h : ¬ (cut s.data.toList).length ≤ 64) : (Lib.splitB ⟨#[47]⟩ 0 (min 65 (s.size + 1) - 1) s).length = 65 := by
  have h1 := congrArg List.length (Lib.splitB_data ⟨#[47]⟩ 0 (min 65 (s.size + 1) - 1) s)
  have hl := cut_len s.data.toList
  rw [← Lib.size_eq] at hl
  have hk : min 65 (s.size + 1) - 1 = 64 := by omega
  rw [hk] at h1 ⊢
  rw [List.length_map] at h1
  rw [h1]
  exact splitK_many 64 s.data.toList (by omega)
theorem piece_size (k : Nat) : ∀ (s : ByteArray), ∀ x ∈ Lib.splitB ⟨#[47]⟩ 0 k s, x.size ≤ s.size := by
  induction k with
  | zero =>
    intro s x hx
    rw [Lib.splitB_zero] at hx
    obtain rfl : x = s := by simpa using hx
    exact Nat.le_refl _
  | succ k ih =>
    intro s x hx
    rcases Lib.indexB_cases s ⟨#[47]⟩ with hix | ⟨i, hix, hroom⟩
    · rw [Lib.splitB_miss _ _ _ _ hix] at hx
      obtain rfl : x = s := by simpa using hx
      exact Nat.le_refl _
    · rw [Lib.splitB_hit _ _ _ _ i hix] at hx
      rcases List.mem_cons.1 hx with rfl | hx
      · rw [ByteArray.size_extract]; omega
      · have := ih _ x hx
        rw [ByteArray.size_extract] at this
        omega
theorem cells_txs (w : World) (l : List ByteArray) (N : Nat) (t : TypeId) (hs : ∀ s ∈ l, s.size ≤ 9223372036854775807) (hl : l.length ≤ 9223372036854775807) : Txs (w.alloc (.cells (Lib.cellsOf l N) t)) (some ⟨w.heap.size, 0, none⟩) l :=
  ⟨hs, hl, fun j hj => ⟨w.heap.size, 0, rfl, by simp, by
    rw [Nat.zero_add, World.cell?_alloc_mark]
    unfold Lib.cellsOf
    rw [List.getElem?_toArray, List.getElem?_append_left (by simpa using hj), List.getElem?_map, List.getElem?_eq_getElem hj]
    rfl⟩⟩

/-- names that a call made -/
def GotN (w : World) (l : List ByteArray) (c : Nat) (e : Ending) (w' : World) : Prop :=
  ∃ A, e = .returned (.slice A l.length c) ∧ l.length ≤ c ∧ Txs w' A l ∧ Below w.heap.size w w'
set_option maxRecDepth 100000 in
set_option maxHeartbeats 1000000 in
theorem splitN_any (w : World) (s : ByteArray) (hs : s.size < 4294967281) :
    Calls Tryz.prog 86 #[.string s, .string ⟨#[47]⟩, .int .i64 65] w (GotN w (Lib.splitB ⟨#[47]⟩ 0 (min 65 (s.size + 1) - 1) s) (min 65 (s.size + 1))) := by
  have c := Any.strings_genSplit_core { Tryz.splitA with } str_info s ⟨#[47]⟩ 0 65 (min 65 (s.size + 1)) w hs (by decide) (Nat.zero_le _) (fun x c _ => index_one w x c 9) (count_one w s) (by decide) (by decide) (by rw [if_neg (by decide)]; omega)
  have hle := Lib.splitB_length_le ⟨#[47]⟩ 0 (min 65 (s.size + 1) - 1) s
  have hps := piece_size (min 65 (s.size + 1) - 1) s
  have HT := Lib.hid (cells_txs w (Lib.splitB ⟨#[47]⟩ 0 (min 65 (s.size + 1) - 1) s) (min 65 (s.size + 1)) 9 (fun x hx => by have := hps x hx; omega) (by omega))
  have HC := Lib.hid (show Calls Tryz.prog 97 #[.string s, .string ⟨#[47]⟩, .int .i64 0, .int .i64 65] w _ from c)
  have HL := Lib.hid (show (Lib.splitB ⟨#[47]⟩ 0 (min 65 (s.size + 1) - 1) s).length ≤ min 65 (s.size + 1) by omega)
  have HB := Lib.hid ((Below.refl w.heap.size w).alloc (Nat.le_refl _) (.cells (Lib.cellsOf (Lib.splitB ⟨#[47]⟩ 0 (min 65 (s.size + 1) - 1) s) (min 65 (s.size + 1))) 9))
  clear c hle hps
  go_enter Tryz.func86, Tryz.ntmps86
  go_wp2_with fail
  refine HC.out.mono ?_
  rintro e w1 ⟨rfl, hw⟩
  have HX := Lib.hid (show GotN w (Lib.splitB ⟨#[47]⟩ 0 (min 65 (s.size + 1) - 1) s) (min 65 (s.size + 1)) (.returned (.slice (some ⟨w.heap.size, 0, none⟩) (Lib.splitB ⟨#[47]⟩ 0 (min 65 (s.size + 1) - 1) s).length (min 65 (s.size + 1)))) w1 by
    rw [hw]
    exact ⟨_, rfl, HL.out, HT.out, HB.out⟩)
  clear hw HC HT HL HB
  go_wp2
  go_ret
  exact HX.out

/-! Split. -/
/-- what Split answers -/
def SplR (w : World) (s : ByteArray) (e : Ending) (w' : World) : Prop :=
  Below w.heap.size w w' ∧ ((∃ l A c, spl s = some l ∧ e = .returned (.tuple #[.slice A l.length c, .int .i64 0]) ∧ l.length ≤ c ∧ Txs w' A l) ∨ (spl s = none ∧ e = .returned (.tuple #[.slice none 0 0, .int .i64 3])))
theorem spl_root {s : ByteArray} (h : s.toList = [47]) : spl s = some [] := by
  have : s.data.toList = [47] := by rw [← Lib.toList_data]; exact h
  unfold spl
  rw [this]
  rfl
theorem data_cons {s : ByteArray} (h0 : 0 < s.size) : s.data.toList = s[0] :: (s.extract 1 s.size).data.toList := by
  rw [Lib.extract_to_end]
  have h1 := Lib.data_getElem? s 0 h0
  cases e : s.data.toList with
  | nil => rw [e] at h1; simp at h1
  | cons b l =>
    rw [e] at h1
    simp at h1
    rw [h1]
    rfl
theorem spl_cons {s : ByteArray} (h0 : 0 < s.size) (hb : s[0] = 47) (h1 : s.toList ≠ [47]) : spl s = if IsNames ((cut (s.extract 1 s.size).data.toList).map mk) then some ((cut (s.extract 1 s.size).data.toList).map mk) else none := by
  have e := data_cons h0
  rw [hb] at e
  have hr : (s.extract 1 s.size).data.toList ≠ [] := fun h => h1 (by rw [Lib.toList_data, e, h])
  unfold spl
  rw [e]
  simp only [if_true]
  rw [if_neg hr]
theorem spl_other {s : ByteArray} (h : ∀ h0 : 0 < s.size, s[0] ≠ 47) : spl s = none := by
  by_cases h0 : 0 < s.size
  · have e := data_cons h0
    unfold spl
    rw [e]
    simp only
    rw [if_neg (h h0)]
  · have : s.data.toList = [] := List.length_eq_zero_iff.1 (by rw [← Lib.size_eq]; omega)
    unfold spl
    rw [this]
theorem head_text {s : ByteArray} (h0 : 0 < s.size) : (s.extract 0 1).toList = [s[0]] := by
  rw [Lib.toList_data, Lib.extract_from_zero, data_cons h0]
  rfl
end Pat
end Go.Proofs.YtkhkcfbacnkcnaaGreatDoor
/- The program's Split. -/
namespace Go.Proofs.YtkhkcfbacnkcnaaGreatDoor
open Go.RowKit Go.MapKept Go.Shelf
namespace Pat

set_option maxHeartbeats 1000000 in
theorem cutPrefix_yes (w : World) (s : ByteArray) (hs : s.size ≤ 9223372036854775807) (h0 : 0 < s.size) (hb : s[0] = 47) :
    Calls Tryz.prog 85 #[.string s, .string ⟨#[47]⟩] w fun e w' => e = .returned (.tuple #[.string (s.extract 1 s.size), .bool true]) ∧ w' = w := by
  have h1 := head_text h0
  rw [hb] at h1
  have h2 : ((s.extract 0 1).toList == [47]) = true := by rw [h1]; rfl
  have h3 : (1 : Int) ≤ (s.size : Int) := by omega
  clear hb
  go_enter Tryz.func85, Tryz.ntmps85
  go_wp2
  refine bodyPost_ret (v := .tuple #[.string (s.extract 1 s.size), .bool true]) ?_ rfl ⟨rfl, rfl⟩
  simp [results, Tryz.results85, go_sem]
set_option maxHeartbeats 1000000 in
theorem cutPrefix_no (w : World) (s : ByteArray) (hs : s.size ≤ 9223372036854775807) (h : ∀ h0 : 0 < s.size, s[0] ≠ 47) :
    Calls Tryz.prog 85 #[.string s, .string ⟨#[47]⟩] w fun e w' => e = .returned (.tuple #[.string s, .bool false]) ∧ w' = w := by
  by_cases h0 : 0 < s.size
  · have h1 := head_text h0
    have hb := h h0
    have h2 : ((s.extract 0 1).toList == [47]) = false := by rw [h1]; simpa using hb
    have h4 : ¬ (s.extract 0 1).toList = [47] := by rw [h1]; simpa using hb
    have h3 : (1 : Int) ≤ (s.size : Int) := by omega
    clear h hb h1
    go_enter Tryz.func85, Tryz.ntmps85
    go_wp2
    refine bodyPost_ret (v := .tuple #[.string s, .bool false]) ?_ rfl ⟨rfl, rfl⟩
    simp [results, Tryz.results85, go_sem]
  · have h3 : ¬ (1 : Int) ≤ (s.size : Int) := by omega
    clear h
    go_enter Tryz.func85, Tryz.ntmps85
    go_wp2
    refine bodyPost_ret (v := .tuple #[.string s, .bool false]) ?_ rfl ⟨rfl, rfl⟩
    simp [results, Tryz.results85, go_sem]

set_option maxRecDepth 100000 in
set_option maxHeartbeats 1000000 in
theorem split_any (w : World) (s : ByteArray) (hs : s.size < 4294967281) :
    Calls Tryz.prog 62 #[.string s] w (SplR w s) := by
  have hs2 : s.size ≤ 9223372036854775807 := by omega
  have hsz : (s.extract 1 s.size).size < 4294967281 := by rw [ByteArray.size_extract]; omega
  by_cases hr : s.toList = [47]
  · have HX := Lib.hid (show SplR w s (.returned (.tuple #[.slice none 0 0, .int .i64 0])) w from ⟨Below.refl _ _, .inl ⟨[], none, 0, spl_root hr, rfl, Nat.le_refl _, txs_nil _ _⟩⟩)
    go_enter Tryz.func62, Tryz.ntmps62
    go_wp2
    refine bodyPost_ret (v := .tuple #[.slice none 0 0, .int .i64 0]) ?_ rfl HX.out
    simp [results, Tryz.results62, go_sem]
  · have hr1 : (s.toList == [47]) = false := by simpa using hr
    by_cases hh : ∀ h0 : 0 < s.size, s[0] ≠ 47
    · have HX := Lib.hid (show SplR w s (.returned (.tuple #[.slice none 0 0, .int .i64 3])) w from ⟨Below.refl _ _, .inr ⟨spl_other hh, rfl⟩⟩)
      have HC := Lib.hid (cutPrefix_no w s hs2 hh)
      clear hh
      go_enter Tryz.func62, Tryz.ntmps62
      go_wp2_with fail
      refine HC.out.mono ?_
      rintro e w1 ⟨rfl, rfl⟩
      go_wp2
      refine bodyPost_ret (v := .tuple #[.slice none 0 0, .int .i64 3]) ?_ rfl HX.out
      simp [results, Tryz.results62, go_sem]
    · obtain ⟨h0, hb⟩ : ∃ h0 : 0 < s.size, s[0] = 47 := by
        by_cases h0 : 0 < s.size
        · refine ⟨h0, ?_⟩
          by_cases hb : s[0] = 47
          · exact hb
          · exact absurd (fun _ => hb) hh
        · exact absurd (fun h => absurd h h0) hh
      have hsp := spl_cons h0 hb hr
      have HC := Lib.hid (cutPrefix_yes w s hs2 h0 hb)
      have HN := Lib.hid (splitN_any w (s.extract 1 s.size) hsz)
      clear hh hb
      generalize s.extract 1 s.size = r at *
      by_cases hn : IsNames (Lib.splitB ⟨#[47]⟩ 0 (min 65 (r.size + 1) - 1) r)
      · have hnb : isNames (Lib.splitB ⟨#[47]⟩ 0 (min 65 (r.size + 1) - 1) r) = true := decide_eq_true hn
        have hfew : (cut r.data.toList).length ≤ 64 := by
          by_cases h : (cut r.data.toList).length ≤ 64
          · exact h
          · have h1 := pieces_many h
            have := hn.1
            omega
        have hpc := pieces_few hfew
        have hsp2 : spl s = some (Lib.splitB ⟨#[47]⟩ 0 (min 65 (r.size + 1) - 1) r) := by
          rw [hsp, ← hpc, if_pos hn]
        have HS := Lib.hid hsp2
        clear hsp hfew hpc hn hsp2
        generalize Lib.splitB ⟨#[47]⟩ 0 (min 65 (r.size + 1) - 1) r = l at *
        go_enter Tryz.func62, Tryz.ntmps62
        go_wp2_with fail
        refine HC.out.mono ?_
        rintro e w1 ⟨rfl, rfl⟩
        go_wp2_with fail
        refine HN.out.mono ?_
        rintro e w2 ⟨A, rfl, hc, ht, hb⟩
        have HT := Lib.hid ht
        have HX := Lib.hid (show SplR w1 s (.returned (.tuple #[.slice A l.length (min 65 (r.size + 1)), .int .i64 0])) w2 from ⟨hb, .inl ⟨l, A, _, HS.out, rfl, hc, ht⟩⟩)
        clear hc ht hb
        generalize min 65 (r.size + 1) = c at *
        go_wp2_with fail
        refine (right_any w2 A c l.length l HT.out rfl).mono ?_
        rintro e w3 ⟨rfl, rfl⟩
        rw [hnb]
        go_wp2
        refine bodyPost_ret (v := .tuple #[.slice A l.length c, .int .i64 0]) ?_ rfl HX.out
        simp [results, Tryz.results62, go_sem]
      · have hnb : isNames (Lib.splitB ⟨#[47]⟩ 0 (min 65 (r.size + 1) - 1) r) = false := decide_eq_false hn
        have hsp2 : spl s = none := by
          rw [hsp]
          refine if_neg (fun h => hn ?_)
          have hfew : (cut r.data.toList).length ≤ 64 := by
            have := h.1
            rw [List.length_map] at this
            exact this
          rw [pieces_few hfew]
          exact h
        have HS := Lib.hid hsp2
        clear hsp hn hsp2
        generalize Lib.splitB ⟨#[47]⟩ 0 (min 65 (r.size + 1) - 1) r = l at *
        go_enter Tryz.func62, Tryz.ntmps62
        go_wp2_with fail
        refine HC.out.mono ?_
        rintro e w1 ⟨rfl, rfl⟩
        go_wp2_with fail
        refine HN.out.mono ?_
        rintro e w2 ⟨A, rfl, hc, ht, hb⟩
        have HT := Lib.hid ht
        have HX := Lib.hid (show SplR w1 s (.returned (.tuple #[.slice none 0 0, .int .i64 3])) w2 from ⟨hb, .inr ⟨HS.out, rfl⟩⟩)
        clear hc ht hb
        generalize min 65 (r.size + 1) = c at *
        go_wp2_with fail
        refine (right_any w2 A c l.length l HT.out rfl).mono ?_
        rintro e w3 ⟨rfl, rfl⟩
        rw [hnb]
        go_wp2
        refine bodyPost_ret (v := .tuple #[.slice none 0 0, .int .i64 3]) ?_ rfl HX.out
        simp [results, Tryz.results62, go_sem]
end Pat
end Go.Proofs.YtkhkcfbacnkcnaaGreatDoor
/- The document's Encode. -/
namespace Go.Proofs.YtkhkcfbacnkcnaaGreatDoor
open Go.RowKit Go.MapKept
namespace Ent

theorem tx_append (S T : ByteArray) : Crc.tx (S ++ T) = Crc.tx S ++ Crc.tx T := by
  unfold Crc.tx
  rw [ByteArray.data_append, Array.toList_append, List.map_append]
theorem tx_inj {S T : ByteArray} (h : Crc.tx S = Crc.tx T) : S = T := by rw [← str_tx S, ← str_tx T, h]

theorem bts_one (w : World) (x : Nat) (hx : x < 256) : Crc.Bts (w.alloc (.cells #[.int .u8 (x : Int)] 5)) (some ⟨w.heap.size, 0, none⟩) [x] :=
  ⟨fun y hy => by
    obtain rfl : y = x := by simpa using hy
    exact hx, by simp, fun j hj => ⟨w.heap.size, 0, rfl, by simp, by
    have : j < 1 := hj
    match j, this with
    | 0, _ => exact Crc.alloc_cell _ _ _ _⟩⟩
theorem bts_four (w : World) (x y z u : Nat) (hx : x < 256) (hy : y < 256) (hz : z < 256) (hu : u < 256) : Crc.Bts (w.alloc (.cells #[.int .u8 (x : Int), .int .u8 (y : Int), .int .u8 (z : Int), .int .u8 (u : Int)] 5)) (some ⟨w.heap.size, 0, none⟩) [x, y, z, u] :=
  ⟨fun q hq => by
    simp only [List.mem_cons, List.not_mem_nil, or_false] at hq
    omega, by simp, fun j hj => ⟨w.heap.size, 0, rfl, by simp, by
    have : j < 4 := hj
    match j, this with
    | 0, _ => exact Crc.alloc_cell _ _ _ _
    | 1, _ => exact Crc.alloc_cell _ _ _ _
    | 2, _ => exact Crc.alloc_cell _ _ _ _
    | 3, _ => exact Crc.alloc_cell _ _ _ _⟩⟩
set_option maxRecDepth 100000 in
theorem conv_one (w : World) (x : Nat) (hx : x < 256) : (convert 30 9 (.slice (some ⟨w.heap.size, 0, none⟩) 1 1)).run Tryz.prog (w.alloc (.cells #[.int .u8 (x : Int)] 5)) = .ok (.string (Crc.str [x])) (w.alloc (.cells #[.int .u8 (x : Int)] 5)) := Crc.conv_str 1 (bts_one w x hx)
set_option maxRecDepth 100000 in
theorem conv_four (w : World) (x y z u : Nat) (hx : x < 256) (hy : y < 256) (hz : z < 256) (hu : u < 256) : (convert 30 9 (.slice (some ⟨w.heap.size, 0, none⟩) 4 4)).run Tryz.prog (w.alloc (.cells #[.int .u8 (x : Int), .int .u8 (y : Int), .int .u8 (z : Int), .int .u8 (u : Int)] 5)) = .ok (.string (Crc.str [x, y, z, u])) (w.alloc (.cells #[.int .u8 (x : Int), .int .u8 (y : Int), .int .u8 (z : Int), .int .u8 (u : Int)] 5)) := Crc.conv_str 4 (bts_four w x y z u hx hy hz hu)

theorem byt_zero : Crc.Byt [0] := by
  unfold Crc.Byt
  decide

end Ent
end Go.Proofs.YtkhkcfbacnkcnaaGreatDoor
/- The document's Decode. -/
namespace Go.Proofs.YtkhkcfbacnkcnaaGreatDoor
open Go.RowKit Go.MapKept
namespace Ent

/-- is there one? -/
def iv : Option (List Nat × Nat) → Bool
  | some _ => true
  | none => false

theorem tx_extract (s : ByteArray) (a b : Nat) : Crc.tx (s.extract a b) = ((Crc.tx s).drop a).take (b - a) := by
  unfold Crc.tx
  rw [ByteArray.data_extract, Array.toList_extract, List.extract_eq_take_drop, List.map_take, List.map_drop]
theorem tx_at {s : ByteArray} {i : Nat} (h : i < s.size) : at' (Crc.tx s) i = (s[i]'h).toNat := Crc.tx_get h

end Ent
end Go.Proofs.YtkhkcfbacnkcnaaGreatDoor
/- The chapter's example; entries as they lie; whether they are few. -/
namespace Go.Proofs.YtkhkcfbacnkcnaaGreatDoor
open Go.RowKit Go.MapKept
namespace Ent

theorem may_ex : may (Crc.tx ⟨#[97, 98]⟩) ((258 : Nat) : Int) = true := by decide +kernel
theorem seven_ex : (enc (Crc.tx ⟨#[97, 98]⟩) 258).take 7 = [2, 1, 2, 0, 97, 98, 0] := by decide +kernel
theorem str_ex : (Crc.str [2, 1, 2, 0, 97, 98, 0]) = ⟨#[2, 1, 2, 0, 97, 98, 0]⟩ := rfl

theorem row_part {W : World} {g : Nat} {l : List Nat} (h : Row W g (at' l)) (hl : l.length = 64) (hb : Crc.Byt l) (n : Nat) : Crc.Bts W (some ⟨g, 0, none⟩) (l.take n) :=
  h.bts 0 (l.take n) (hb.take n) (by rw [List.length_take]; omega) (fun j hj => by
    rw [List.length_take] at hj
    rw [Nat.zero_add, List.getElem_take]
    unfold at'
    rw [List.getElem?_eq_getElem (by omega)]
    rfl)

set_option maxHeartbeats 1000000 in
theorem lives_any (w : World) : Calls Tryz.prog 63 #[] w fun r w' => r = .returned (.bool true) ∧ Below w.heap.size w w' := by
  have HE := Lib.hid (encode_yes w ⟨#[97, 98]⟩ 258 may_ex)
  have HC := Lib.hid Crc.lives_any
  have H48 := Lib.hid (may_len may_ex)
  rw [show ((258 : Nat) : Int) = 258 from rfl] at HE
  go_enter Tryz.func63, Tryz.ntmps63
  go_wp2_with fail
  refine HE.out.mono ?_
  rintro e w1 ⟨g, hg, rfl, hr, hb⟩
  have HR := Lib.hid hr
  have HB := Lib.hid hb
  clear hr hb hg
  go_wp2_with fail
  refine (HC.out _).mono ?_
  rintro e w2 ⟨rfl, hb2⟩
  have HB2 := Lib.hid (HB.out.trans (hb2.mono HB.out.size))
  have hcv := Crc.conv_str 64 (row_part (HR.out.keep hb2) (enc_len H48.out 258) (enc_byt (Crc.tx_byt _) H48.out 258) 7)
  rw [seven_ex, str_ex] at hcv
  rw [show ([2, 1, 2, 0, 97, 98, 0] : List Nat).length = 7 from rfl] at hcv
  clear hb2 HB HR HE
  go_wp2
  go_ret
  exact ⟨rfl, HB2.out⟩

/-- an entry's name and number -/
abbrev En := ByteArray × Int

/-- these entries lie at A -/
structure Es (w : World) (A : Option Addr) (l : List En) : Prop where
  size : ∀ e ∈ l, e.1.size ≤ 9223372036854775807
  len : l.length ≤ 9223372036854775807
  at' : ∀ j (h : j < l.length), ∃ b o, A = some ⟨b, o, none⟩ ∧ b < w.heap.size ∧ w.cell? ⟨b, o + j * 2, none⟩ = some (.string l[j].1) ∧ w.cell? ⟨b, o + j * 2 + 1, none⟩ = some (.int .i64 l[j].2)
theorem Es.keep {w w' : World} {A : Option Addr} {l : List En} (h : Es w A l) (hb : Below w.heap.size w w') : Es w' A l :=
  ⟨h.size, h.len, fun j hj => by
    obtain ⟨b, o, e, hlt, hc, hd⟩ := h.at' j hj
    exact ⟨b, o, e, Nat.lt_of_lt_of_le hlt hb.size, (hb.cell (p := ⟨b, o + j * 2, none⟩) hlt).trans hc, (hb.cell (p := ⟨b, o + j * 2 + 1, none⟩) hlt).trans hd⟩⟩
theorem Es.drew {w : World} {A : Option Addr} {l : List En} (h : Es w A l) : Es w.drew A l := h.keep (Below.refl _ _).drew
theorem es_one (w : World) (s : ByteArray) (i : Int) (t : TypeId) (hs : s.size ≤ 9223372036854775807) : Es (w.alloc (.cells #[.string s, .int .i64 i] t)) (some ⟨w.heap.size, 0, none⟩) [(s, i)] :=
  ⟨fun e he => by
    obtain rfl : e = (s, i) := by simpa using he
    exact hs, by simp, fun j hj => by
    have : j < 1 := hj
    match j, this with
    | 0, _ => exact ⟨w.heap.size, 0, rfl, by simp, Crc.alloc_cell _ _ _ _, Crc.alloc_cell _ _ _ _⟩⟩

/-- few, and short -/
def Few (l : List En) : Prop := (∀ e ∈ l, e.1.size ≤ 100) ∧ l.length ≤ 40
instance (l : List En) : Decidable (Few l) := by unfold Few; infer_instance
def few (l : List En) : Bool := decide (Few l)

end Ent
end Go.Proofs.YtkhkcfbacnkcnaaGreatDoor
/- The chapter's example. -/
namespace Go.Proofs.YtkhkcfbacnkcnaaGreatDoor
open Go.RowKit Go.MapKept Go.Shelf
namespace Pat

theorem ex_yes : spl ⟨#[47, 97, 47, 98]⟩ = some [⟨#[97]⟩, ⟨#[98]⟩] := by decide +kernel
theorem ex_no : spl ⟨#[47, 97, 47]⟩ = none := by decide +kernel
theorem split_yes (w : World) : Calls Tryz.prog 62 #[.string ⟨#[47, 97, 47, 98]⟩] w fun e w' => ∃ A c, e = .returned (.tuple #[.slice A 2 c, .int .i64 0]) ∧ Txs w' A [⟨#[97]⟩, ⟨#[98]⟩] ∧ Below w.heap.size w w' :=
  (split_any w _ (by decide)).mono fun e w' ⟨hb, h⟩ => by
    rcases h with ⟨l, A, c, hs, he, _, ht⟩ | ⟨hs, _⟩
    · rw [ex_yes] at hs
      injection hs with hs
      subst hs
      exact ⟨A, c, he, ht, hb⟩
    · rw [ex_yes] at hs
      cases hs
theorem split_no (w : World) : Calls Tryz.prog 62 #[.string ⟨#[47, 97, 47]⟩] w fun e w' => e = .returned (.tuple #[.slice none 0 0, .int .i64 3]) ∧ Below w.heap.size w w' :=
  (split_any w _ (by decide)).mono fun e w' ⟨hb, h⟩ => by
    rcases h with ⟨l, A, c, hs, _⟩ | ⟨_, he⟩
    · rw [ex_no] at hs
      cases hs
    · exact ⟨he, hb⟩

set_option maxRecDepth 100000 in
set_option maxHeartbeats 1000000 in
theorem lives_any (w : World) : Calls Tryz.prog 29 #[] w fun e w' => e = .returned (.bool true) ∧ Below w.heap.size w w' := by
  have H1 := Lib.hid split_yes
  have H2 := Lib.hid split_no
  have H3 := Lib.hid Ent.lives_any
  go_enter Tryz.func29, Tryz.ntmps29
  go_wp2_with fail
  refine (H1.out _).mono ?_
  rintro e w1 ⟨A, c, rfl, ht, hb⟩
  have HT := Lib.hid ht
  have HB := Lib.hid hb
  clear ht hb
  go_wp2_with fail
  refine (H2.out _).mono ?_
  rintro e w2 ⟨rfl, hb2⟩
  have HT2 := Lib.hid (HT.out.keep hb2)
  have HB2 := Lib.hid (HB.out.trans (hb2.mono HB.out.size))
  clear hb2
  go_wp2_with fail
  refine (H3.out _).mono ?_
  rintro e w3 ⟨rfl, hb3⟩
  have hb3' := HB2.out.trans (hb3.mono HB2.out.size)
  have HB3 := Lib.hid hb3'
  obtain ⟨b, o, rfl, _, hc0⟩ := (HT2.out.keep hb3).at' 0 (by decide)
  obtain ⟨b', o', e, _, hc1⟩ := (HT2.out.keep hb3).at' 1 (by decide)
  injection e with e
  injection e with e1 e2
  subst e1 e2
  simp only [List.getElem_cons_zero, List.getElem_cons_succ, Nat.add_zero] at hc0 hc1
  clear hb3 hb3'
  go_wp2
  go_ret
  exact ⟨rfl, HB3.out⟩
end Pat
end Go.Proofs.YtkhkcfbacnkcnaaGreatDoor
/- A path's parent: a row of the call's own. -/
namespace Go.Proofs.YtkhkcfbacnkcnaaGreatDoor
open Go.RowKit Go.MapKept Go.Lib
namespace Pat

/-- a row of names of the call's own, in block g -/
def Own (w : World) (g : Nat) (l : List ByteArray) : Prop := w.rowIs g 9 l.length (fun i => .string (l.getD i ByteArray.empty))
theorem Own.txs {w : World} {g : Nat} {l : List ByteArray} (h : Own w g l) (hs : ∀ s ∈ l, s.size ≤ 9223372036854775807) (hl : l.length ≤ 9223372036854775807) : Txs w (some ⟨g, 0, none⟩) l :=
  ⟨hs, hl, fun j hj => ⟨g, 0, rfl, World.rowIs.lt h, by
    rw [Nat.zero_add, World.rowIs.cell h hj, List.getD_eq_getElem?_getD, List.getElem?_eq_getElem hj, Option.getD_some]⟩⟩
theorem Own.keep {w w' : World} {g N : Nat} {l : List ByteArray} (h : Own w g l) (hb : Below N w w') (hg : g < N) : Own w' g l := World.rowIs.of_block h (hb.block g hg)
theorem Own.set {w : World} {g : Nat} {l : List ByteArray} (h : Own w g l) (k : Nat) (s : ByteArray) : Own (w.setCell ⟨g, k, none⟩ (.string s)) g (l.set k s) := by
  have h1 := World.rowIs.set h k (.string s)
  unfold Own
  rw [List.length_set]
  refine h1.congr (fun j hj => ?_)
  by_cases e : j = k
  · subst e
    rw [if_pos rfl, List.getD_eq_getElem?_getD, List.getElem?_set_self hj, Option.getD_some]
  · rw [if_neg e, List.getD_eq_getElem?_getD, List.getD_eq_getElem?_getD, List.getElem?_set_ne (fun h => e h.symm)]

theorem kid_at {m : List ByteArray} {s : ByteArray} : (m ++ [s])[m.length]'(by simp) = s := by simp

set_option maxRecDepth 100000 in
set_option maxHeartbeats 1000000 in
theorem parent_yes (w : World) (A : Option Addr) (c n k : Nat) (m : List ByteArray) (s : ByteArray) (h : Txs w A (m ++ [s])) (hk : m.length = k) (hn : n = k + 1) (hm : k ≤ 1000000) :
    Calls Tryz.prog 90 #[.slice A n c] w fun e w' => ∃ g, e = .returned (.tuple #[.slice (some ⟨g, 0, none⟩) k k, .string s, .bool true]) ∧ w.heap.size ≤ g ∧ Own w' g m ∧ Below w.heap.size w w' := by
  subst hk
  have hmk := run_make_row' (P := Tryz.prog) 33 9 _ 16 Tryz.underlying33 str_info rfl .i64 .i64 m.length (by omega) (by omega) w
  have hr1 := World.rowIs_made w (.string ByteArray.empty) m.length 9
  have hb1 := (Below.refl w.heap.size w).alloc (Nat.le_refl _) (.cells (madeCells #[.string ByteArray.empty] m.length) 9)
  obtain ⟨b, o, hA, hlt, hc⟩ := h.at' m.length (by simp)
  rw [kid_at] at hc
  subst hA
  have hcp := run_copy_cells (P := Tryz.prog) (w.alloc (.cells (madeCells #[.string ByteArray.empty] m.length) 9)) 33 33 3 9 w.heap.size 0 m.length m.length ⟨b, o, none⟩ n c (strs m)
    Tryz.underlying33 (by kernel_rfl) (by rw [hn]; simp [strs])
    (fun j v hj => by
      have hjl : j < m.length := by
        have := (List.getElem?_eq_some_iff.1 hj).1
        simpa [strs] using this
      obtain ⟨b', o', e, hlt', hc'⟩ := (h.alloc (.cells (madeCells #[.string ByteArray.empty] m.length) 9)).at' j (by simp; omega)
      injection e with e
      injection e with e1 e2
      subst e1 e2
      rw [Go.WideShapes.add_plain, hc', ← hj]
      simp [strs, List.getElem_append_left hjl, List.getElem?_eq_getElem hjl])
    (fun j hj => by
      have hjl : j < m.length := by simpa [strs] using hj
      rw [Nat.zero_add, hr1.cell hjl]; rfl)
    (fun j hj => hr1.frozen _) (strs_one m)
  have hr2 : Own ((w.alloc (.cells (madeCells #[.string ByteArray.empty] m.length) 9)).setCells w.heap.size 0 (strs m)) w.heap.size m :=
    (rowIs_setCells (strs m) 0 (w.alloc (.cells (madeCells #[.string ByteArray.empty] m.length) 9)) _ hr1).congr (fun j hj => by
      rw [if_pos ⟨Nat.zero_le _, by simpa [strs] using hj⟩]
      simp [strs, List.getElem?_eq_getElem hj])
  have hb2 := below_setCells (b := w.heap.size) (Nat.le_refl _) (strs m) 0 _ hb1
  have hcw := (hb2.cell (p := ⟨b, o + m.length, none⟩) hlt).trans hc
  have hlen : (strs m).length = m.length := by simp [strs]
  rw [hlen] at hcp
  have HO := Lib.hid hr2
  have HB := Lib.hid hb2
  have hsub : (n : Int) - 1 = (m.length : Int) := by omega
  have hn0 : ((n : Int) == 0) = false := beq_eq_false_iff_ne.2 (by omega)
  have hn1 : ¬ (n : Int) = 0 := by omega
  have hi0 : (0 : Int) ≤ (m.length : Int) := by omega
  have hi1 : (m.length : Int) < (n : Int) := by omega
  clear h hr1 hr2 hb1 hb2 hn hlen hc
  generalize w.heap.size = g at *
  generalize w.alloc (.cells (madeCells #[.string ByteArray.empty] m.length) 9) = w1 at *
  generalize w1.setCells g 0 (strs m) = w2 at *
  go_enter Tryz.func90, Tryz.ntmps90
  go_wp2
  go_quiet (fail)
  go_wp2
  refine bodyPost_ret (v := .tuple #[.slice (some ⟨g, 0, none⟩) m.length m.length, .string s, .bool true]) ?_ rfl ⟨g, rfl, Nat.le_refl _, HO.out, below_drewN HB.out _⟩
  simp [results, Tryz.results90, go_sem]

set_option maxHeartbeats 1000000 in
theorem parent_no (w : World) (A : Option Addr) (c : Nat) :
    Calls Tryz.prog 90 #[.slice A 0 c] w fun e w' => e = .returned (.tuple #[.slice none 0 0, .string ByteArray.empty, .bool false]) ∧ w' = w := by
  go_enter Tryz.func90, Tryz.ntmps90
  go_wp2
  refine bodyPost_ret (v := .tuple #[.slice none 0 0, .string ByteArray.empty, .bool false]) ?_ rfl ⟨rfl, rfl⟩
  simp [results, Tryz.results90, go_sem]
  rfl
end Pat
end Go.Proofs.YtkhkcfbacnkcnaaGreatDoor
/- The law of a path's parent. -/
namespace Go.Proofs.YtkhkcfbacnkcnaaGreatDoor
open Go.RowKit Go.MapKept Go.Shelf
namespace Pat

theorem Txs.left {w : World} {A : Option Addr} {m r : List ByteArray} (h : Txs w A (m ++ r)) : Txs w A m := by
  have := h.take m.length
  rwa [List.take_left] at this

theorem mark_ok (w : World) (g k : Nat) (l : List ByteArray) (h : Own w g l) (hk : k < l.length) : (∃ u, w.cell? ⟨g, k, none⟩ = some (.string u)) ∧ w.frozen? ⟨g, k, none⟩ = false :=
  ⟨⟨_, World.rowIs.cell h hk⟩, World.rowIs.frozen h k⟩

theorem same_self (w : World) (A B : Option Addr) (c d k : Nat) (x : List ByteArray) (hk : x.length = k) (hx : Txs w A x) (hy : Txs w B x) :
    Calls Tryz.prog 12 #[.slice A k c, .slice B k d] w fun e w' => e = .returned (.bool true) ∧ ∃ n, w' = w.drewN n := by
  subst hk
  exact (same_any w A B c d x x hx hy).mono fun e w' h => ⟨by rw [h.1, decide_eq_true rfl], h.2⟩

end Pat
end Go.Proofs.YtkhkcfbacnkcnaaGreatDoor
/- A path with one name more: a copy and a name behind it. -/
namespace Go.Proofs.YtkhkcfbacnkcnaaGreatDoor
open Go.RowKit Go.MapKept Go.Shelf
namespace Pat

theorem row_cap {W : World} {B n c : Nat} {e : TypeId} {s : Nat} {G : Option Addr} {xs : List Value} (h : W.ownsRow B e s (.slice G n c) n xs) : n ≤ c := by
  rcases h.2 with ⟨e, h0⟩ | ⟨g, cap, cur, e, _, _, hc, _⟩
  · omega
  · injection e with _ _ e
    omega
/-- a copy of names, a row of the call's own -/
theorem copy_row {W : World} {A : Option Addr} {l : List ByteArray} (c : Nat) (h : Txs W A l) (hA : A = none → c = 0) (hl : l.length ≤ 1000000) :
    ∃ (G : Option Addr) (gc : Nat) (w' : World), (Builtin.append_ #[33, 33] 33 #[.slice (some ⟨W.heap.size, 0, none⟩) 0 0, .slice A l.length c]).run Tryz.prog (W.alloc (.cells #[] 9)) = .ok (.slice G l.length gc) w' ∧ w'.ownsRow W.heap.size 9 1 (.slice G l.length gc) l.length (strs l) ∧ Below W.heap.size W w' := by
  obtain ⟨i0, hi0, hz0, hz1, hz2⟩ := info_parts str_info
  have hown : (W.alloc (.cells #[] 9)).ownsRow W.heap.size 9 1 (.slice (some ⟨W.heap.size, 0, none⟩) 0 0) 0 [] := World.ownsRow_made W #[] 0 (Nat.le_refl _) (by unfold maxLen; omega) rfl
  have hb := (Below.refl W.heap.size W).alloc (Nat.le_refl _) (.cells #[] 9)
  cases A with
  | none =>
    have hl0 : l = [] := by
      cases l with
      | nil => rfl
      | cons b l =>
        obtain ⟨_, _, e, _⟩ := h.at' 0 (by simp)
        cases e
    subst hl0
    rw [hA rfl]
    exact ⟨_, _, _, run_append_owned_none (P := Tryz.prog) _ W.heap.size 33 33 9 i0 1 Tryz.underlying33 hi0 _ 0 [] hown, hown, hb⟩
  | some ad =>
    obtain ⟨v', w', hr, h2, h3, _, _⟩ := run_append_own_at (P := Tryz.prog) (W.alloc (.cells #[] 9)) W.heap.size 33 33 9 i0 (.string ByteArray.empty) 1 16 Tryz.underlying33 hi0 hz0 hz1 hz2 rfl (by decide) _ 0 [] hown ad l.length c (strs l) (by simp [strs]) (txs_news (h.alloc _)) (strs_one l) (by unfold maxLen; omega) (by omega) (by simp)
    rw [Nat.zero_add, List.nil_append] at h2
    obtain ⟨G, gc, rfl⟩ := row_slice h2
    exact ⟨G, gc, w', hr, h2, hb.grown h3 (by simp) (fun k hk => row_base_lt hown hk)⟩

/-- an append whose run is known -/
theorem wpList_append_run {P : Program} {w w' : World} {ops : Array Oper} {rest : List Oper} {o : Oper} {a : Act} {Q : Exit → Act → World → Prop} (hgd : o.guard = none) (s x : Operand) (t : TypeId)
    (ho : o.op = .call { callee := .builtin .append, args := #[s, x], argTypes := #[t, t] }) (v u v' : Value) (hs : a.eval s = v) (hx : a.eval x = u) (hr : (Builtin.append_ #[t, t] o.type #[v, u]).run P w = .ok v' w')
    (h : wpList P ops Q rest (a.put o.dst v') w') : wpList P ops Q (o :: rest) a w := by
  refine wpList_plain hgd fun K hK => ?_
  unfold Oper.wp execOp
  simp only [ho, resolve, invoke, builtin, Sem.run_bind, Sem.run_pure, Result.andThen_ok, List.map_toArray, List.map_cons, List.map_nil, hs, hx, hr]
  exact hK _ _ h

theorem one_new (w : World) (s : ByteArray) (t : TypeId) : ∀ j u, [Value.string s][j]? = some u → (w.alloc (.cells #[.string s] t)).cell? ((⟨w.heap.size, 0, none⟩ : Addr).add j) = some u := by
  intro j u hj
  match j, hj with
  | 0, hj =>
    simp at hj
    subst hj
    simp [Addr.add]

/-- a path, one with one name more, and another one -/
structure Tri (w : World) (A G O : Option Addr) (l kid other : List ByteArray) : Prop where
  l : Txs w A l
  k : Txs w G kid
  o : Txs w O other
theorem Tri.keep {w w' : World} {A G O : Option Addr} {l kid other : List ByteArray} (h : Tri w A G O l kid other) (hb : Below w.heap.size w w') : Tri w' A G O l kid other :=
  ⟨h.l.keep hb, h.k.keep hb, h.o.keep hb⟩
theorem Tri.drewN {w : World} {A G O : Option Addr} {l kid other : List ByteArray} (h : Tri w A G O l kid other) (n : Nat) : Tri (w.drewN n) A G O l kid other :=
  ⟨h.l.drewN n, h.k.drewN n, h.o.drewN n⟩
theorem same_at (w : World) (A B : Option Addr) (c d n m : Nat) (x y : List ByteArray) (hn : x.length = n) (hm : y.length = m) (hx : Txs w A x) (hy : Txs w B y) :
    Calls Tryz.prog 12 #[.slice A n c, .slice B m d] w fun e w' => e = .returned (.bool (decide (x = y))) ∧ ∃ n, w' = w.drewN n := by
  subst hn hm
  exact same_any w A B c d x y hx hy
/-- what whether it is within tells -/
theorem kids_past {l other : List ByteArray} (n : ByteArray) (h : other.take l.length ≠ l) : bef l other = false ∨ (bef l other = true ∧ bef (l ++ [n]) other = true) := by
  by_cases hp : bef l other = true
  · exact .inr ⟨hp, bef_past l other n hp h⟩
  · exact .inl (Bool.eq_false_iff.2 hp)
end Pat
end Go.Proofs.YtkhkcfbacnkcnaaGreatDoor
/- The document's things as they lie in memory; where one stands. -/
namespace Go.Proofs.YtkhkcfbacnkcnaaGreatDoor
open Go.RowKit Go.MapKept
namespace Tre
open Pat (Txs)

/-- a thing with where its names lie -/
abbrev Tg := Option Addr × Nat × Th
abbrev ths (l : List Tg) : List Th := l.map (·.2.2)
/-- a thing's three cells -/
abbrev tc (g : Tg) : List Value := [.slice g.1 g.2.2.1.length g.2.1, .bool g.2.2.2.1, .string g.2.2.2.2]
def tcells (l : List Tg) : List Value := l.flatMap tc
theorem tcells_len (l : List Tg) : (tcells l).length = l.length * 3 := by
  induction l with
  | nil => rfl
  | cons f l ih => simp only [tcells, List.flatMap_cons, List.length_append, List.length_cons, List.length_nil] at *; omega
theorem tcells_append (l m : List Tg) : tcells (l ++ m) = tcells l ++ tcells m := by
  unfold tcells
  rw [List.flatMap_append]
theorem tcells_one (l : List Tg) : ∀ u ∈ tcells l, u.oneCell' = true := by
  intro u hu
  obtain ⟨g, _, h⟩ := List.mem_flatMap.1 hu
  simp only [List.mem_cons, List.not_mem_nil, or_false] at h
  rcases h with rfl | rfl | rfl <;> rfl
theorem tcells_get {l : List Tg} : ∀ {j : Nat} (h : j < l.length), (tcells l)[j * 3]? = some (.slice l[j].1 l[j].2.2.1.length l[j].2.1) ∧ (tcells l)[j * 3 + 1]? = some (.bool l[j].2.2.2.1) ∧ (tcells l)[j * 3 + 2]? = some (.string l[j].2.2.2.2) := by
  induction l with
  | nil => intro j h; simp at h
  | cons f l ih =>
    intro j h
    cases j with
    | zero => exact ⟨rfl, rfl, rfl⟩
    | succ j =>
      have := ih (j := j) (by simpa using h)
      have e : (j + 1) * 3 = j * 3 + 1 + 1 + 1 := by omega
      rw [e]
      simpa [tcells] using this

/-- things as they lie -/
structure Ths (w : World) (A : Option Addr) (l : List Tg) : Prop where
  len : l.length ≤ 1000000
  nm : ∀ g ∈ l, Txs w g.1 g.2.2.1 ∧ g.2.2.1.length ≤ g.2.1
  sz : ∀ g ∈ l, g.2.2.2.2.size ≤ 9223372036854775807
  at' : ∀ j (h : j < l.length), ∃ b o, A = some ⟨b, o, none⟩ ∧ b < w.heap.size ∧ w.cell? ⟨b, o + j * 3, none⟩ = some (.slice l[j].1 l[j].2.2.1.length l[j].2.1) ∧ w.cell? ⟨b, o + j * 3 + 1, none⟩ = some (.bool l[j].2.2.2.1) ∧ w.cell? ⟨b, o + j * 3 + 2, none⟩ = some (.string l[j].2.2.2.2)
theorem Ths.keep {w w' : World} {A : Option Addr} {l : List Tg} (h : Ths w A l) (hb : Below w.heap.size w w') : Ths w' A l :=
  ⟨h.len, fun g hg => ⟨(h.nm g hg).1.keep hb, (h.nm g hg).2⟩, h.sz, fun j hj => by
    obtain ⟨b, o, e, hlt, h0, h1, h2⟩ := h.at' j hj
    exact ⟨b, o, e, Nat.lt_of_lt_of_le hlt hb.size, (hb.cell (p := ⟨b, o + j * 3, none⟩) hlt).trans h0, (hb.cell (p := ⟨b, o + j * 3 + 1, none⟩) hlt).trans h1, (hb.cell (p := ⟨b, o + j * 3 + 2, none⟩) hlt).trans h2⟩⟩
theorem Ths.drew {w : World} {A : Option Addr} {l : List Tg} (h : Ths w A l) : Ths w.drew A l := h.keep (Below.refl _ _).drew
theorem Ths.alloc {w : World} {A : Option Addr} {l : List Tg} (h : Ths w A l) (o : Obj) : Ths (w.alloc o) A l := h.keep ((Below.refl _ _).alloc (Nat.le_refl _) o)
theorem ths_nil (w : World) (A : Option Addr) : Ths w A [] := ⟨by simp, fun _ h => by simp at h, fun _ h => by simp at h, fun j h => by simp at h⟩
/-- a row of things of the call's own -/
theorem own_ths {W : World} {B n c : Nat} {t : TypeId} {G : Option Addr} {l : List Tg} (h : W.ownsRow B t 3 (.slice G n c) n (tcells l)) (hl : n ≤ 1000000) (hn : ∀ g ∈ l, Txs W g.1 g.2.2.1 ∧ g.2.2.1.length ≤ g.2.1) (hs : ∀ g ∈ l, g.2.2.2.2.size ≤ 9223372036854775807) : Ths W G l ∧ l.length = n := by
  have hln : l.length = n := by
    have := h.1
    rw [tcells_len] at this
    omega
  refine ⟨⟨by omega, hn, hs, fun j hj => ?_⟩, hln⟩
  obtain ⟨f0, f1, f2⟩ := tcells_get hj
  rcases h.2 with ⟨e, h0⟩ | ⟨g, cap, cur, e, hB, hh, _, _, _, ht⟩
  · omega
  · injection e with e
    subst e
    have key : ∀ i, i < n * 3 → W.cell? ⟨g, 0 + i, none⟩ = (tcells l)[i]? := fun i hi => by
      have := congrArg (·[i]?) ht
      rw [List.getElem?_take, if_pos hi] at this
      unfold World.cell?
      rw [hh, Nat.zero_add]
      simp only
      rw [← Array.getElem?_toList]
      exact this
    exact ⟨g, 0, rfl, (Array.getElem?_eq_some_iff.1 hh).1, (key _ (by omega)).trans f0, (key (j * 3 + 1) (by omega)).trans f1, (key (j * 3 + 2) (by omega)).trans f2⟩
theorem ths_news {W : World} {ad : Addr} {l : List Tg} (h : Ths W (some ad) l) : ∀ j u, (tcells l)[j]? = some u → W.cell? (ad.add j) = some u := by
  intro j u hu
  have hj : j < l.length * 3 := by
    have := (List.getElem?_eq_some_iff.1 hu).1
    rwa [tcells_len] at this
  have hj3 : j / 3 < l.length := by omega
  obtain ⟨b, o, e, _, h0, h1, h2⟩ := h.at' (j / 3) hj3
  obtain ⟨f0, f1, f2⟩ := tcells_get hj3
  injection e with e
  subst e
  rw [Go.WideShapes.add_plain]
  have hm : j % 3 = 0 ∨ j % 3 = 1 ∨ j % 3 = 2 := by omega
  rcases hm with hm | hm | hm
  · have e : j = j / 3 * 3 := by omega
    rw [← e] at h0 f0
    rw [h0, ← hu, f0]
  · have e : j = j / 3 * 3 + 1 := by omega
    rw [Nat.add_assoc, ← e] at h1
    rw [← e] at f1
    rw [h1, ← hu, f1]
  · have e : j = j / 3 * 3 + 2 := by omega
    rw [Nat.add_assoc, ← e] at h2
    rw [← e] at f2
    rw [h2, ← hu, f2]

/-- names stay where a cell elsewhere is stored -/
theorem txs_set {w : World} {A : Option Addr} {n : Nm} {b : Nat} (h : Txs w A n) (hne : ∀ a, A = some a → b < a.block) (o : Nat) (v : Value) : Txs (w.setCell ⟨b, o, none⟩ v) A n :=
  ⟨h.size, h.len, fun j hj => by
    obtain ⟨b', o', e, hlt, hc⟩ := h.at' j hj
    have hbb : b < b' := hne _ e
    refine ⟨b', o', e, by simpa [World.setCell] using hlt, ?_⟩
    rw [World.cell?_setCell_other _ _ _ _ (fun e => by injection e with e; omega)]
    exact hc⟩
/-- a row of the call's own stays where a cell elsewhere is stored -/
theorem own_set {w : World} {B b n s : Nat} {t : TypeId} {v : Value} {xs : List Value} (h : w.ownsRow B t s v n xs) (hb : b < B) (o : Nat) (u : Value) : (w.setCell ⟨b, o, none⟩ u).ownsRow B t s v n xs := by
  rcases h with ⟨h1, h2⟩
  refine ⟨h1, ?_⟩
  rcases h2 with h0 | ⟨g, cap, cur, e, hB, hh, hr⟩
  · exact .inl h0
  · exact .inr ⟨g, cap, cur, e, hB, (Deep.blk_setCell_other w ⟨b, o, none⟩ u g (by simp only; omega)).trans hh, hr⟩

/-- block b is none of theirs -/
def Apart (b : Nat) (A : Option Addr) (l : List Tg) : Prop := (∀ a, A = some a → l ≠ [] → a.block ≠ b) ∧ ∀ g ∈ l, ∀ a, g.1 = some a → g.2.2.1 ≠ [] → a.block ≠ b
theorem Ths.apart {w : World} {A : Option Addr} {l : List Tg} (h : Ths w A l) {b : Nat} (hb : w.heap.size ≤ b) : Apart b A l := by
  refine ⟨fun a e hl => ?_, fun g hg a e hn => ?_⟩
  · obtain ⟨b', o', e', hlt, _⟩ := h.at' 0 (List.length_pos_iff.2 hl)
    rw [e] at e'
    injection e' with e'
    subst e'
    simp only
    omega
  · obtain ⟨b', o', e', hlt, _⟩ := (h.nm g hg).1.at' 0 (List.length_pos_iff.2 hn)
    rw [e] at e'
    injection e' with e'
    subst e'
    simp only
    omega
theorem ths_set {w : World} {A : Option Addr} {l : List Tg} {b : Nat} (h : Ths w A l) (ha : Apart b A l) (o : Nat) (u : Value) : Ths (w.setCell ⟨b, o, none⟩ u) A l :=
  ⟨h.len, fun g hg => ⟨⟨(h.nm g hg).1.size, (h.nm g hg).1.len, fun j hj => by
    obtain ⟨b', o', e, hlt, hc⟩ := (h.nm g hg).1.at' j hj
    have hne : b' ≠ b := ha.2 g hg _ e (fun h0 => by rw [h0] at hj; simp at hj)
    refine ⟨b', o', e, by simpa [World.setCell] using hlt, ?_⟩
    rw [World.cell?_setCell_other _ _ _ _ (fun e => by injection e with e; omega)]
    exact hc⟩, (h.nm g hg).2⟩, h.sz, fun j hj => by
    obtain ⟨b', o', e, hlt, h0, h1, h2⟩ := h.at' j hj
    have hne : b' ≠ b := ha.1 _ e (fun h0 => by rw [h0] at hj; simp at hj)
    refine ⟨b', o', e, by simpa [World.setCell] using hlt, ?_, ?_, ?_⟩
    all_goals rw [World.cell?_setCell_other _ _ _ _ (fun e => by injection e with e; omega)]
    · exact h0
    · exact h1
    · exact h2⟩

/-- a tree's value -/
abbrev tv (A : Option Addr) (n c : Nat) : Value := .agg #[.slice A n c]

theorem ths_get {l : List Tg} {j : Nat} (h : j < l.length) : (ths l)[j]'(by simpa using h) = l[j].2.2 := by simp

set_option maxRecDepth 100000 in
set_option maxHeartbeats 1000000 in
theorem find_any (w : World) (A B : Option Addr) (c d : Nat) (l : List Tg) (n : Nm) (k m : Nat) (hk : l.length = k) (hm : n.length = m) (h : Ths w A l) (hn : Txs w B n) :
    Calls Tryz.prog 52 #[tv A k c, .slice B m d] w fun e w' => e = .returned (.int .i64 (fv (ths l) n)) ∧ Below w.heap.size w w' := by
  subst hk
  have hl := h.len
  have H := Lib.hid h
  have HN := Lib.hid hn
  have HM := Lib.hid hm
  have HB0 := Lib.hid ((Below.refl w.heap.size w).alloc (Nat.le_refl _) (.cells #[.slice A l.length c] 29))
  clear h hn hm
  go_enter Tryz.func52, Tryz.ntmps52
  go_wp2
  go_loopw [10] (fun i wr => ∃ k : Nat, k ≤ l.length ∧ i = .int .i64 (k : Int) ∧ Below w.heap.size w wr ∧ ∀ j (hj : j < l.length), j < k → l[j].2.2.1 ≠ n) (fun i _ => l.length - (intOf i).toNat)
  case atStart => exact ⟨0, Nat.zero_le _, rfl, HB0.out, fun j _ h => absurd h (by omega)⟩
  case round =>
    obtain ⟨k, hk, rfl, hb, hr⟩ := hrel
    have HR := Lib.hid hr
    have HB := Lib.hid hb
    clear hr
    by_cases hlt : k < l.length
    · obtain ⟨b, o, rfl, _, h0, h1, h2⟩ := (H.out.keep hb).at' k hlt
      have hnm := (H.out.nm _ (List.getElem_mem hlt)).1
      have HT := Lib.hid (show l[k].2.2.1 = n → fv (ths l) n = (k : Int) from fun e => by
        unfold fv
        rw [fi_at (i := k) (by simpa using hlt) (by simpa using e) (fun j hj => by simpa using HR.out j (by omega) hj)])
      have HF := Lib.hid (show l[k].2.2.1 ≠ n → ∀ j (hj : j < l.length), j < k + 1 → l[j].2.2.1 ≠ n from fun e j hj hjk => by
        rcases Nat.lt_or_ge j k with h | h
        · exact HR.out j hj h
        · obtain rfl : j = k := by omega
          exact e)
      clear hb
      generalize l[k] = g at *
      obtain ⟨a, gc, gn, gd, gs⟩ := g
      simp only at h0 h1 h2 hnm HT HF
      have HB1 := Lib.hid (HB.out.alloc HB.out.size (.cells #[.slice a gn.length gc, .bool gd, .string gs] 93))
      have HX := Lib.hid (hnm.keep HB1.out)
      have HY := Lib.hid (HN.out.keep HB1.out)
      clear hnm
      go_wp2_with fail
      refine (Pat.same_at _ a B gc d gn.length m gn n rfl HM.out HX.out HY.out).mono ?_
      rintro e w2 ⟨rfl, n2, hw2⟩
      have HB2 := Lib.hid (show Below w.heap.size w w2 by rw [hw2]; exact Pat.below_drewN HB1.out n2)
      clear hw2
      by_cases e : gn = n
      · rw [decide_eq_true e]
        have HV := Lib.hid (HT.out e)
        clear e
        go_wp2
        go_ret
        exact ⟨by rw [HV.out]; rfl, HB2.out⟩
      · rw [decide_eq_false e]
        have HV := Lib.hid (HF.out e)
        clear e
        go_wp2
        exact ⟨⟨k + 1, by omega, by go_num, HB2.out, HV.out⟩, by simp [intOf]; omega⟩
    · obtain rfl : k = l.length := by omega
      have HV := Lib.hid (show fv (ths l) n = -1 by
        unfold fv
        rw [fi_none (fun j hj => by simpa using HR.out j (by simpa using hj) (by simpa using hj))])
      clear hb
      go_wp2
      go_ret
      exact ⟨by rw [HV.out]; rfl, HB.out⟩
end Tre
end Go.Proofs.YtkhkcfbacnkcnaaGreatDoor
/- The program's Join and the document's. -/
namespace Go.Proofs.YtkhkcfbacnkcnaaGreatDoor
open Go.RowKit Go.MapKept Go.Shelf
namespace Pat

theorem joinX : Builder.Extra Tryz.prog Tryz.joinA_ren := by
  -- of 95
  refine { sizeBuilder := ?_, liesBuilder := ?_, t5 := Tryz.underlying5, a5 := Tryz.isAgg5, z5 := Tryz.sizeOf5, v5 := Tryz.zeroValue5, infoByte := ?_, cellsByte := ?_, sizeByte := ?_, neB5 := ?_ }
  · kernel_rfl
  · kernel_rfl
  · kernel_rfl
  · kernel_rfl
  · kernel_rfl
  · decide

theorem lens_le {l : List ByteArray} (h : IsNames l) : (Lib.join (l.map (·.data.toList)) [47]).length ≤ 10000 := by
  cases l with
  | nil => simp [Lib.join_nil]
  | cons x r =>
    rw [List.map_cons, Lib.join_length]
    have key : ∀ (m : List ByteArray), (∀ n ∈ m, Ent.Right (Crc.tx n)) → Lib.lens (m.map (·.data.toList)) ≤ 48 * m.length := by
      intro m
      induction m with
      | nil => intro _; simp [Lib.lens]
      | cons y m ih =>
        intro hm
        have h1 := (hm y (by simp)).1.2
        have h2 := ih (fun n hn => hm n (by simp [hn]))
        unfold Crc.tx at h1
        rw [List.length_map] at h1
        simp only [Lib.lens, List.map_cons, List.sum_cons, List.length_cons] at h2 ⊢
        omega
    have h1 := key (x :: r) h.2
    rw [List.map_cons] at h1
    have h2 := h.1
    simp only [List.length_cons, List.length_map, List.length_nil] at h1 h2 ⊢
    omega

/-- the library's Join of a path's names -/
theorem strJoin_any (w : World) (A : Option Addr) (c : Nat) (l : List ByteArray) (h : Txs w A l) (hc : l.length ≤ c) (hn : IsNames l) :
    Calls Tryz.prog 95 #[.slice A l.length c, .string ⟨#[47]⟩] w fun e w' => e = .returned (.string (mk (Lib.join (l.map (·.data.toList)) [47]))) ∧ Below w.heap.size w w' := by
  have h64 := hn.1
  by_cases h0 : l = []
  · subst h0
    refine (Any.strings_Join_none Tryz.joinA joinX A c ⟨#[47]⟩ w).mono fun e w' ⟨he, hw⟩ => ⟨he, ?_⟩
    rw [hw]
    exact Below.refl _ _
  · obtain ⟨b, o, rfl, hlt, _⟩ := h.at' 0 (List.length_pos_iff.2 h0)
    exact Any.strings_Join Tryz.joinA joinX b o c l ⟨#[47]⟩ w (fun j x hj => by
      obtain ⟨hj', rfl⟩ := List.getElem?_eq_some_iff.1 hj
      obtain ⟨b', o', e, _, hc'⟩ := h.at' j hj'
      injection e with e
      injection e with e1 e2
      subst e1 e2
      exact hc') hlt (by omega) hc (by have := lens_le hn; show (Lib.join (l.map (·.data.toList)) [47]).length ≤ _; omega)

/-- what Join answers -/
def jn (l : List ByteArray) : Value := if IsNames l then .tuple #[.string (pth l), .int .i64 0] else .tuple #[.string ByteArray.empty, .int .i64 3]
theorem pth_front (l : List ByteArray) : (⟨#[47]⟩ : ByteArray) ++ mk (Lib.join (l.map (·.data.toList)) [47]) = pth l := by
  rw [pth_join]
  apply ByteArray.ext
  rw [ByteArray.data_append]
  simp

set_option maxRecDepth 100000 in
set_option maxHeartbeats 1000000 in
theorem join_any (w : World) (A : Option Addr) (c : Nat) (l : List ByteArray) (h : Txs w A l) (hc : l.length ≤ c) :
    Calls Tryz.prog 79 #[.slice A l.length c] w fun e w' => e = .returned (jn l) ∧ Below w.heap.size w w' := by
  have H := Lib.hid h
  clear h
  by_cases hn : IsNames l
  · have hnb : isNames l = true := decide_eq_true hn
    have HJ := Lib.hid (show jn l = .tuple #[.string (pth l), .int .i64 0] from if_pos hn)
    have HS := Lib.hid (strJoin_any w A c l H.out hc hn)
    have hsz : (mk (Lib.join (l.map (·.data.toList)) [47])).size ≤ 10000 := by
      have := lens_le hn
      rw [Lib.size_eq, data_mk]
      exact this
    have HP := Lib.hid (pth_front l)
    clear hn
    generalize mk (Lib.join (l.map (·.data.toList)) [47]) = T at *
    have hadd : 1 + T.size ≤ 9223372036854775807 := by omega
    have hadd2 : ¬ (9223372036854775807 : Int) < ((1 + T.size : Nat) : Int) := by omega
    go_enter Tryz.func79, Tryz.ntmps79
    go_wp2_with fail
    refine (right_any w A c l.length l H.out rfl).mono ?_
    rintro e w1 ⟨rfl, rfl⟩
    rw [hnb]
    go_wp2_with fail
    refine HS.out.mono ?_
    rintro e w2 ⟨rfl, hb⟩
    have HB := Lib.hid hb
    clear hb HS
    go_wp2
    refine bodyPost_ret (v := .tuple #[.string (⟨#[47]⟩ ++ T), .int .i64 0]) ?_ rfl ⟨by rw [HJ.out, HP.out], HB.out⟩
    simp [results, Tryz.results79, go_sem]
  · have hnb : isNames l = false := decide_eq_false hn
    have HJ := Lib.hid (show jn l = .tuple #[.string ByteArray.empty, .int .i64 3] from if_neg hn)
    clear hn
    go_enter Tryz.func79, Tryz.ntmps79
    go_wp2_with fail
    refine (right_any w A c l.length l H.out rfl).mono ?_
    rintro e w1 ⟨rfl, rfl⟩
    rw [hnb]
    go_wp2
    refine bodyPost_ret (v := .tuple #[.string ByteArray.empty, .int .i64 3]) ?_ rfl ⟨by rw [HJ.out], Below.refl _ _⟩
    simp [results, Tryz.results79, go_sem]
    rfl
end Pat
end Go.Proofs.YtkhkcfbacnkcnaaGreatDoor
/- The document's Split, byte by byte. -/
namespace Go.Proofs.YtkhkcfbacnkcnaaGreatDoor
open Go.RowKit Go.MapKept Go.Shelf
namespace Pat

/-- behind k bytes: m are done, t is begun -/
def Mid (s : ByteArray) (k : Nat) (m : List ByteArray) (t : ByteArray) : Prop :=
  k ≤ s.size ∧ cut (s.extract 1 s.size).data.toList = m.map (·.data.toList) ++ glue t.data.toList (cut (s.data.toList.drop k))
theorem drop_byte {s : ByteArray} {k : Nat} (h : k < s.size) : s.data.toList.drop k = s[k] :: s.data.toList.drop (k + 1) := by
  have h1 := Lib.data_getElem? s k h
  have h2 : k < s.data.toList.length := by rw [← Lib.size_eq]; exact h
  rw [List.drop_eq_getElem_cons h2]
  rw [List.getElem?_eq_getElem h2] at h1
  injection h1 with h1
  rw [h1]
theorem mid_start {s : ByteArray} (h : 0 < s.size) : Mid s 1 [] ByteArray.empty :=
  ⟨h, by rw [Lib.extract_to_end]; exact (glue_none (cut_ne _)).symm⟩
theorem mid_byte {s : ByteArray} {k : Nat} {m : List ByteArray} {t : ByteArray} (h : k < s.size) (hb : s[k] ≠ 47) (hm : Mid s k m t) : Mid s (k + 1) m (t ++ s.extract k (k + 1)) := by
  refine ⟨h, ?_⟩
  have e : (t ++ s.extract k (k + 1)).data.toList = t.data.toList ++ [s[k]] := by
    rw [ByteArray.data_append, Array.toList_append, Lib.extract_data]
    congr 1
    have := drop_byte h
    rw [this]
    simp
  rw [hm.2, drop_byte h, cut, if_neg hb, glue_glue, e]
theorem mid_piece {s : ByteArray} {k : Nat} {m : List ByteArray} {t : ByteArray} (h : k = s.size ∨ ∃ h : k < s.size, s[k] = 47) (hm : Mid s k m t) : ∃ r, cut (s.extract 1 s.size).data.toList = m.map (·.data.toList) ++ t.data.toList :: r := by
  rw [hm.2]
  rcases h with rfl | ⟨h, hb⟩
  · refine ⟨[], ?_⟩
    rw [List.drop_eq_nil_of_le (by rw [← Lib.size_eq]; exact Nat.le_refl _)]
    simp [cut, glue]
  · refine ⟨cut (s.data.toList.drop (k + 1)), ?_⟩
    rw [drop_byte h, cut, if_pos hb]
    simp [glue]
theorem mid_cut {s : ByteArray} {k : Nat} {m : List ByteArray} {t : ByteArray} (h : k < s.size) (hb : s[k] = 47) (hm : Mid s k m t) : Mid s (k + 1) (m ++ [t]) ByteArray.empty := by
  refine ⟨h, ?_⟩
  rw [hm.2, drop_byte h, cut, if_pos hb, show ByteArray.empty.data.toList = [] from rfl, glue_none (cut_ne _)]
  simp [glue]
theorem mid_end {s : ByteArray} {m : List ByteArray} {t : ByteArray} (hm : Mid s s.size m t) : cut (s.extract 1 s.size).data.toList = (m ++ [t]).map (·.data.toList) := by
  rw [hm.2, List.drop_eq_nil_of_le (by rw [← Lib.size_eq]; exact Nat.le_refl _)]
  simp [cut, glue]

/-- between two rounds -/
def St (s : ByteArray) (k : Nat) (m : List ByteArray) (t : ByteArray) : Prop :=
  (∀ n ∈ m, Ent.Right (Crc.tx n)) ∧ m.length ≤ 64 ∧ t.size ≤ k ∧ (Mid s k m t ∨ (k = s.size + 1 ∧ cut (s.extract 1 s.size).data.toList = m.map (·.data.toList)))
theorem St.mid {s : ByteArray} {k : Nat} {m : List ByteArray} {t : ByteArray} (h : St s k m t) (hk : k ≤ s.size) : Mid s k m t := by
  rcases h.2.2.2 with h | ⟨h, _⟩
  · exact h
  · omega
theorem St.byte {s : ByteArray} {k : Nat} {m : List ByteArray} {t : ByteArray} (h : St s k m t) (hk : k < s.size) (hb : s[k] ≠ 47) : St s (k + 1) m (t ++ s.extract k (k + 1)) :=
  ⟨h.1, h.2.1, by have := h.2.2.1; rw [ByteArray.size_append, ByteArray.size_extract]; omega, .inl (mid_byte hk hb (h.mid (Nat.le_of_lt hk)))⟩
theorem St.next {s : ByteArray} {k : Nat} {m : List ByteArray} {t : ByteArray} (h : St s k m t) (hk : k ≤ s.size) (hb : k = s.size ∨ ∃ h : k < s.size, s[k] = 47) (hr : Ent.Right (Crc.tx t)) (hl : m.length < 64) : St s (k + 1) (m ++ [t]) ByteArray.empty := by
  refine ⟨fun n hn => ?_, by simp; omega, Nat.zero_le _, ?_⟩
  · rcases List.mem_append.1 hn with h1 | h1
    · exact h.1 n h1
    · obtain rfl : n = t := by simpa using h1
      exact hr
  · rcases hb with rfl | ⟨hlt, hb⟩
    · exact .inr ⟨rfl, mid_end (h.mid hk)⟩
    · exact .inl (mid_cut hlt hb (h.mid hk))
theorem St.none {s : ByteArray} {k : Nat} {m : List ByteArray} {t : ByteArray} (h : St s k m t) (hk : k ≤ s.size) (hb : k = s.size ∨ ∃ h : k < s.size, s[k] = 47) (hr : ¬ Ent.Right (Crc.tx t) ∨ m.length = 64) : ¬ IsNames ((cut (s.extract 1 s.size).data.toList).map mk) := by
  obtain ⟨r, e⟩ := mid_piece hb (h.mid hk)
  intro hn
  rw [e] at hn
  rcases hr with hr | hr
  · exact hr (hn.2 t (by simp))
  · have := hn.1
    simp at this
    omega
theorem St.last {s : ByteArray} {k : Nat} {m : List ByteArray} {t : ByteArray} (h : St s k m t) (hk : s.size < k) : (cut (s.extract 1 s.size).data.toList).map mk = m ∧ IsNames m := by
  rcases h.2.2.2 with h1 | ⟨_, h1⟩
  · have := h1.1
    omega
  · exact ⟨by rw [h1, map_mk], h.2.1, h.1⟩

/-- what the document's Split answers -/
def RefS (w : World) (s : ByteArray) (e : Ending) (w' : World) : Prop :=
  Below w.heap.size w w' ∧ ((∃ l A c, spl s = some l ∧ e = .returned (.tuple #[.slice A l.length c, .bool true]) ∧ Txs w' A l ∧ l.length ≤ c ∧ ∀ a, A = some a → w.heap.size ≤ a.block) ∨ (spl s = none ∧ e = .returned (.tuple #[.slice none 0 0, .bool false])))
/-- names of the call's own -/
def GotO (w wr : World) (G : Option Addr) (gc : Nat) (m : List ByteArray) : Prop := wr.ownsRow w.heap.size 9 1 (.slice G m.length gc) m.length (strs m) ∧ Below w.heap.size w wr
theorem own_base {w : World} {B n c : Nat} {t : TypeId} {a : Addr} {xs : List Value} (h : w.ownsRow B t 1 (.slice (some a) n c) n xs) : B ≤ a.block := by
  rcases h.2 with ⟨e, _⟩ | ⟨g, cap, cur, e, hB, _⟩
  · cases e
  · injection e with e
    injection e with e
    subst e
    exact hB
theorem right_size {s : ByteArray} (h : Ent.Right (Crc.tx s)) : s.size ≤ 48 := by have := h.1.2; rw [Crc.tx_len] at this; exact this

set_option maxRecDepth 100000 in
set_option maxHeartbeats 2000000 in
theorem refSplit_any (w : World) (s : ByteArray) (hs : s.size < 4294967281) :
    Calls Tryz.prog 50 #[.string s] w (RefS w s) := by
  by_cases hr : s.toList = [47]
  · have HX := Lib.hid (show RefS w s (.returned (.tuple #[.slice none 0 0, .bool true])) w from ⟨Below.refl _ _, .inl ⟨[], none, 0, spl_root hr, rfl, txs_nil _ _, Nat.le_refl _, fun a e => by cases e⟩⟩)
    go_enter Tryz.func50, Tryz.ntmps50
    go_wp2
    refine bodyPost_ret (v := .tuple #[.slice none 0 0, .bool true]) ?_ rfl HX.out
    simp [results, Tryz.results50, go_sem]
  · have hr1 : (s.toList == [47]) = false := by simpa using hr
    by_cases h0 : 0 < s.size
    · have hse : ¬ s.toList = [] := fun e => by
        have : s.size = 0 := by rw [Lib.size_eq, ← Lib.toList_data, e]; rfl
        omega
      have hse1 : (s.toList == []) = false := by simpa using hse
      by_cases hb : s[0] = 47
      · have hbn : (s[0].toNat : Int) = 47 := by rw [hb]; rfl
        have HSP := Lib.hid (spl_cons h0 hb hr)
        have HST := Lib.hid (show St s 1 [] ByteArray.empty from ⟨fun n hn => by simp at hn, by simp, Nat.zero_le _, .inl (mid_start h0)⟩)
        obtain ⟨i0, hi0, hz0, hz1, hz2⟩ := info_parts str_info
        clear hb
        go_enter Tryz.func50, Tryz.ntmps50
        go_wp2
        go_loopw [4, 5, 6] (fun sv tv i wr => ∃ (k gc : Nat) (G : Option Addr) (m : List ByteArray) (t : ByteArray), sv = .slice G m.length gc ∧ tv = .string t ∧ i = .int .i64 (k : Int) ∧ GotO w wr G gc m ∧ 1 ≤ k ∧ k ≤ s.size + 1 ∧ St s k m t) (fun _ _ i _ => s.size + 1 - (intOf i).toNat)
        case atStart => exact ⟨1, 0, none, [], ByteArray.empty, rfl, rfl, rfl, ⟨⟨rfl, .inl ⟨rfl, rfl⟩⟩, Below.refl _ _⟩, Nat.le_refl _, by omega, HST.out⟩
        case round =>
          obtain ⟨k, gc, G, m, t, rfl, rfl, rfl, hgot, hk1, hk, hst⟩ := hrel
          have HG := Lib.hid hgot
          have HS := Lib.hid hst
          have hm64 : m.length ≤ 64 := hst.2.1
          have ht : t.size ≤ k := hst.2.2.1
          clear hgot hst
          have stay : k ≤ s.size → (k = s.size ∨ ∃ h : k < s.size, s[k] = 47) → (¬ Ent.Right (Crc.tx t) ∨ m.length = 64) → RefS w s (.returned (.tuple #[.slice none 0 0, .bool false])) wr := fun h1 h2 h3 =>
            ⟨HG.out.2, .inr ⟨by rw [HSP.out, if_neg (HS.out.none h1 h2 h3)], rfl⟩⟩
          have STAY := Lib.hid stay
          clear stay
          by_cases hle : k ≤ s.size
          · have hle1 : (k : Int) ≤ (s.size : Int) := by omega
            by_cases hbyte : ∃ h : k < s.size, s[k] ≠ 47
            · obtain ⟨hlt, hb⟩ := hbyte
              have hbk : ¬ (s[k].toNat : Int) = 47 := fun e => hb (UInt8.toNat_inj.1 (by have : (47 : UInt8).toNat = 47 := rfl; omega))
              have HNX := Lib.hid (HS.out.byte hlt hb)
              have hx : (s.extract k (k + 1)).size = 1 := by rw [ByteArray.size_extract]; omega
              have ha : t.size + (s.extract k (k + 1)).size ≤ 9223372036854775807 := by omega
              have hlt1 : (k : Int) < (s.size : Int) := by omega
              have c0 : (0 : Int) ≤ (k : Int) := by omega
              have c1 : (k : Int) ≤ (k : Int) + 1 := by omega
              have c2 : (k : Int) + 1 ≤ (s.size : Int) := by omega
              clear hb
              go_wp2
              exact ⟨⟨k + 1, gc, G, m, _, rfl, rfl, by go_num, HG.out, by omega, by omega, HNX.out⟩, by simp [intOf]; omega⟩
            · have hpc : k = s.size ∨ ∃ h : k < s.size, s[k] = 47 := by
                by_cases hlt : k < s.size
                · refine .inr ⟨hlt, ?_⟩
                  by_cases hb : s[k] = 47
                  · exact hb
                  · exact absurd ⟨hlt, hb⟩ hbyte
                · exact .inl (by omega)
              have HPC := Lib.hid hpc
              have hts : t.size ≤ 9223372036854775807 := by omega
              have HREF := Lib.hid (Ent.refRight_any wr t hts)
              have HOWN := Lib.hid (HG.out.1.alloc (.cells #[.string t] 9))
              have HB5 := Lib.hid (HG.out.2.alloc HG.out.2.size (.cells #[.string t] 9))
              have HN5 := Lib.hid (one_new wr t 9)
              have hc0 : (0 : Int) ≤ (k : Int) := by omega
              clear hbyte hpc
              rcases HPC.out with h | ⟨h, hb⟩
              all_goals (
                first
                | (have hlt1 : ¬ (k : Int) < (s.size : Int) := by omega
                   clear h
                   go_wp2_with fail)
                | (have hlt1 : (k : Int) < (s.size : Int) := by omega
                   have hbk : (s[k].toNat : Int) = 47 := by rw [hb]; rfl
                   clear hb
                   go_wp2_with fail)
                refine HREF.out.mono ?_
                rintro e w2 ⟨rfl, rfl⟩
                by_cases hr : Ent.Right (Crc.tx t)
                · rw [Ent.right_iff.2 hr]
                  by_cases hl : m.length = 64
                  · have hli : ((m.length : Int) == 64) = true := by rw [hl]; rfl
                    have hli2 : (m.length : Int) = 64 := by omega
                    have HX := Lib.hid (STAY.out hle HPC.out (.inr hl))
                    clear hl hr
                    go_wp2
                    refine bodyPost_ret (v := .tuple #[.slice none 0 0, .bool false]) ?_ rfl HX.out
                    simp [results, Tryz.results50, go_sem]
                  · have hli : ((m.length : Int) == 64) = false := beq_eq_false_iff_ne.2 (by omega)
                    have hli2 : ¬ (m.length : Int) = 64 := by omega
                    have HNX := Lib.hid (HS.out.next hle HPC.out hr (by omega))
                    clear hr
                    go_wp2_with (at_builtin; refine wpList_append_own_at _ rfl (.tmp 48) (.tmp 50) 33 rfl w.heap.size 9 i0 (.string ByteArray.empty) 1 16 Tryz.underlying33 hi0 hz0 hz1 hz2 rfl (by decide) (.slice G m.length gc) m.length (strs m) rfl HOWN.out ⟨wr.heap.size, 0, none⟩ 1 1 [.string t] rfl rfl HN5.out (by simp [Value.oneCell']) (by unfold maxLen; omega) (by omega) (by have := HB5.out.size; omega) ?_
                                 intro v' w3 hown3 hgr3 _ _
                                 obtain ⟨G', gc', rfl⟩ := row_slice hown3
                                 have HO3 := Lib.hid (show GotO w w3 G' gc' (m ++ [t]) from ⟨by rw [show (m ++ [t]).length = m.length + 1 by simp, show strs (m ++ [t]) = strs m ++ [Value.string t] by simp [strs]]; exact hown3, HB5.out.grown hgr3 HB5.out.size (fun k hk => row_base_lt HG.out.1 hk)⟩)
                                 clear hown3 hgr3)
                    exact ⟨⟨k + 1, gc', G', m ++ [t], ByteArray.empty, by simp, rfl, by go_num, HO3.out, by omega, by omega, HNX.out⟩, by simp [intOf]; omega⟩
                · rw [Ent.right_no hr]
                  have HX := Lib.hid (STAY.out hle HPC.out (.inl hr))
                  clear hr
                  go_wp2
                  refine bodyPost_ret (v := .tuple #[.slice none 0 0, .bool false]) ?_ rfl HX.out
                  simp [results, Tryz.results50, go_sem])
          · have hle1 : ¬ (k : Int) ≤ (s.size : Int) := by omega
            obtain ⟨hL1, hL2⟩ := HS.out.last (by omega)
            have HX := Lib.hid (show RefS w s (.returned (.tuple #[.slice G m.length gc, .bool true])) wr from
              ⟨HG.out.2, .inl ⟨m, G, gc, by rw [HSP.out, hL1, if_pos hL2], rfl, (own_txs HG.out.1 (fun n hn => by have := right_size (hL2.2 n hn); omega) (by omega)).1, row_cap HG.out.1, fun a e => by
                subst e
                exact own_base HG.out.1⟩⟩)
            clear hL1 hL2
            go_wp2
            refine bodyPost_ret (v := .tuple #[.slice G m.length gc, .bool true]) ?_ rfl HX.out
            simp [results, Tryz.results50, go_sem]
      · have hbn : ¬ (s[0].toNat : Int) = 47 := fun e => hb (UInt8.toNat_inj.1 (by have : (47 : UInt8).toNat = 47 := rfl; omega))
        have HX := Lib.hid (show RefS w s (.returned (.tuple #[.slice none 0 0, .bool false])) w from ⟨Below.refl _ _, .inr ⟨spl_other (fun _ => hb), rfl⟩⟩)
        clear hb
        go_enter Tryz.func50, Tryz.ntmps50
        go_wp2
        refine bodyPost_ret (v := .tuple #[.slice none 0 0, .bool false]) ?_ rfl HX.out
        simp [results, Tryz.results50, go_sem]
    · have hse : s.toList = [] := by
        have : s.data.toList = [] := List.length_eq_zero_iff.1 (by rw [← Lib.size_eq]; omega)
        rw [Lib.toList_data, this]
      have HX := Lib.hid (show RefS w s (.returned (.tuple #[.slice none 0 0, .bool false])) w from ⟨Below.refl _ _, .inr ⟨spl_other (fun h => absurd h h0), rfl⟩⟩)
      go_enter Tryz.func50, Tryz.ntmps50
      go_wp2
      refine bodyPost_ret (v := .tuple #[.slice none 0 0, .bool false]) ?_ rfl HX.out
      simp [results, Tryz.results50, go_sem]
end Pat
end Go.Proofs.YtkhkcfbacnkcnaaGreatDoor
/- What going to names tells; whether names are a directory's; where a path's file stands. -/
namespace Go.Proofs.YtkhkcfbacnkcnaaGreatDoor
open Go.RowKit Go.MapKept
namespace Tre
open Pat (Txs)

theorem fv_none {t : List Th} {n : Nm} (h : fi t n = none) : fv t n = -1 := by unfold fv; rw [h]
theorem fv_some {t : List Th} {n : Nm} {i : Nat} (h : fi t n = some i) : fv t n = (i : Int) := by unfold fv; rw [h]
theorem fi_lt {l : List Tg} {n : Nm} {i : Nat} (h : fi (ths l) n = some i) : i < l.length := by
  obtain ⟨h1, _⟩ := fi_some h
  simpa using h1
theorem isDir_at {l : List Tg} {i : Nat} (h : i < l.length) : isDirAt (ths l) i = l[i].2.2.2.1 := by
  unfold isDirAt
  rw [List.getElem?_eq_getElem (by simpa using h)]
  simp
theorem goF_none {t : List Th} {n : Nm} {f k : Nat} (h : fi t (n.take k) = none) : goF t n (f + 1) k = 4 := by rw [goF, h]
theorem goF_file {t : List Th} {n : Nm} {f k i : Nat} (h : fi t (n.take k) = some i) (hk : k < n.length) (hd : isDirAt t i = false) : goF t n (f + 1) k = 6 := by
  rw [goF, h]
  exact if_pos ⟨hk, hd⟩
theorem goF_next {t : List Th} {n : Nm} {f k i : Nat} (h : fi t (n.take k) = some i) (hn : ¬ (k < n.length ∧ isDirAt t i = false)) : goF t n (f + 1) k = goF t n f (k + 1) := by
  rw [goF, h]
  exact if_neg hn

theorem below_drew {w w1 : World} (h : Below w.drew.heap.size w.drew w1) : Below w.heap.size w w1 := ⟨h.os, h.tape, h.output, h.size, h.block⟩

set_option maxRecDepth 100000 in
set_option maxHeartbeats 2000000 in
theorem go_any (w : World) (A B : Option Addr) (c d : Nat) (l : List Tg) (n : Nm) (q m : Nat) (hq : l.length = q) (hm : n.length = m) (h : Ths w A l) (hn : Txs w B n) (hd : m ≤ d) (hml : m ≤ 1000000) :
    Calls Tryz.prog 51 #[tv A q c, .slice B m d] w fun e w' => e = .returned (.int .i64 (goT (ths l) n)) ∧ Below w.heap.size w w' := by
  have hl := h.len
  rw [hq] at hl
  have H := Lib.hid h
  have HN := Lib.hid hn
  have HM := Lib.hid hm
  have HQ := Lib.hid hq
  have HB0 := Lib.hid ((Below.refl w.heap.size w).alloc (Nat.le_refl _) (.cells #[.slice A q c] 29))
  have HC0 := Lib.hid (Crc.alloc_cell w #[.slice A q c] 29 0)
  clear h hn hm hq
  go_enter Tryz.func51, Tryz.ntmps51
  go_wp2
  go_loopw [5] (fun i wr => ∃ k : Nat, 1 ≤ k ∧ k ≤ m + 1 ∧ i = .int .i64 (k : Int) ∧ Below w.heap.size w wr ∧ wr.cell? ⟨w.heap.size, 0, none⟩ = some (.slice A q c) ∧ w.heap.size < wr.heap.size ∧ goT (ths l) n = goF (ths l) n (m + 1 - k) k) (fun i _ => m + 1 - (intOf i).toNat)
  case atStart => exact ⟨1, Nat.le_refl _, by omega, rfl, HB0.out, HC0.out, by simp, by rw [Nat.add_sub_cancel, ← HM.out]; rfl⟩
  case round =>
    obtain ⟨k, hk1, hk, rfl, hb, hbx, hbl, hgo⟩ := hrel
    have HB := Lib.hid hb
    have HG := Lib.hid hgo
    by_cases hle : k ≤ m
    · have hle1 : (k : Int) ≤ (m : Int) := by omega
      have hk0 : (0 : Int) ≤ (k : Int) := by omega
      have hkd : (k : Int) ≤ (d : Int) := by omega
      have hf : m + 1 - k = (m - k) + 1 := by omega
      rw [hf] at HG
      have HT := Lib.hid (H.out.keep HB.out)
      have HFN := Lib.hid (find_any wr.drew A B c d l (n.take k) q k HQ.out (by rw [List.length_take, HM.out]; omega) HT.out.drew ((HN.out.keep HB.out).drew.take k))
      clear hgo hf hb
      go_wp2_with fail
      go_region_held3 (fun W' => W'.cell? ⟨w.heap.size, 0, none⟩ = some (.slice A q c)) (go_keep)
        (first
        | (go_at_call 52
           with_reducible refine HFN.out.mono ?_
           rintro e w1 ⟨rfl, hb1⟩
           have HB1 := Lib.hid (below_drew hb1)
           have hbx1 := (hb1.cell (p := ⟨w.heap.size, 0, none⟩) hbl).trans hbx
           clear hb1))
      have HB2 := Lib.hid (HB.out.trans (HB1.out.mono HB.out.size))
      have hbl2 := Nat.lt_of_lt_of_le hbl HB1.out.size
      cases hfi : fi (ths l) (n.take k) with
      | none =>
        have HV := Lib.hid (HG.out.trans (goF_none hfi))
        have hv := fv_none hfi
        rw [hv]
        clear hfi hv
        go_wp2
        go_ret
        exact ⟨by rw [HV.out]; rfl, HB2.out⟩
      | some i =>
        have hil := fi_lt hfi
        have hv := fv_some hfi
        have HDA := Lib.hid (isDir_at hil)
        have HNX := Lib.hid (fun h => HG.out.trans (goF_next hfi h))
        have HFL := Lib.hid (fun h1 h2 => HG.out.trans (goF_file hfi h1 h2))
        rw [hv]
        obtain ⟨b, o, rfl, _, h0, h1, h2⟩ := (HT.out.keep HB1.out).at' i hil
        have hi0 : (0 : Int) ≤ (i : Int) := by omega
        have hi1 : (i : Int) < (q : Int) := by have := HQ.out; omega
        have hi2 : ¬ (i : Int) < 0 := by omega
        clear hfi hv
        generalize l[i] = g at *
        obtain ⟨a, gc, gn, gd, gs⟩ := g
        simp only at h0 h1 h2 HDA
        by_cases hlt : k < m
        · have hlt1 : (k : Int) < (m : Int) := by omega
          cases gd with
          | false =>
            have HV := Lib.hid (HFL.out (by rw [HM.out]; exact hlt) HDA.out)
            clear hlt
            go_wp2
            go_ret
            exact ⟨by rw [HV.out]; rfl, HB2.out⟩
          | true =>
            have HV := Lib.hid (HNX.out (fun h => by rw [HDA.out] at h; cases h.2))
            clear hlt
            go_wp2
            exact ⟨⟨k + 1, by omega, by omega, by go_num, HB2.out, hbx1, hbl2, by rw [show m + 1 - (k + 1) = m - k by omega]; exact HV.out⟩, by simp [intOf]; omega⟩
        · have hlt1 : ¬ (k : Int) < (m : Int) := by omega
          have HV := Lib.hid (HNX.out (fun h => hlt (by rw [HM.out] at h; exact h.1)))
          go_wp2
          exact ⟨⟨k + 1, by omega, by omega, by go_num, HB2.out, hbx1, hbl2, by rw [show m + 1 - (k + 1) = m - k by omega]; exact HV.out⟩, by simp [intOf]; omega⟩
    · have hle1 : ¬ (k : Int) ≤ (m : Int) := by omega
      have HV := Lib.hid (show goT (ths l) n = 0 by rw [HG.out, show m + 1 - k = 0 by omega]; rfl)
      clear hgo hb
      go_wp2
      go_ret
      exact ⟨by rw [HV.out]; rfl, HB.out⟩
end Tre
end Go.Proofs.YtkhkcfbacnkcnaaGreatDoor
/- Whether names are a directory's; where a path's file stands. -/
namespace Go.Proofs.YtkhkcfbacnkcnaaGreatDoor
open Go.RowKit Go.MapKept
namespace Tre
open Pat (Txs)

theorem dirT_nil (t : List Th) : dirT t [] = true := if_pos rfl
theorem dirT_none {t : List Th} {n : Nm} (h0 : n ≠ []) (h : fi t n = none) : dirT t n = false := by unfold dirT; rw [if_neg h0, h]
theorem dirT_some {t : List Th} {n : Nm} {i : Nat} (h0 : n ≠ []) (h : fi t n = some i) : dirT t n = isDirAt t i := by unfold dirT; rw [if_neg h0, h]

set_option maxRecDepth 100000 in
set_option maxHeartbeats 2000000 in
theorem dir_any (w : World) (A B : Option Addr) (c d : Nat) (l : List Tg) (n : Nm) (q m : Nat) (hq : l.length = q) (hm : n.length = m) (h : Ths w A l) (hn : Txs w B n) :
    Calls Tryz.prog 70 #[tv A q c, .slice B m d] w fun e w' => e = .returned (.bool (dirT (ths l) n)) ∧ Below w.heap.size w w' := by
  have HB0 := Lib.hid ((Below.refl w.heap.size w).alloc (Nat.le_refl _) (.cells #[.slice A q c] 29))
  have HC0 := Lib.hid (Crc.alloc_cell w #[.slice A q c] 29 0)
  by_cases h0 : n = []
  · subst h0
    have hm0 : m = 0 := hm.symm
    subst hm0
    have HV := Lib.hid (dirT_nil (ths l))
    clear h hn hm hq
    go_enter Tryz.func70, Tryz.ntmps70
    go_wp2
    go_ret
    exact ⟨by rw [HV.out]; rfl, HB0.out⟩
  · have hpos : 0 < m := by rw [← hm]; exact List.length_pos_iff.2 h0
    have hz : ((m : Int) == 0) = false := beq_eq_false_iff_ne.2 (by omega)
    have hz2 : ¬ (m : Int) = 0 := by omega
    have HT := Lib.hid (h.keep HB0.out)
    have HFN := Lib.hid (find_any (w.alloc (.cells #[.slice A q c] 29)) A B c d l n q m hq hm HT.out (hn.keep HB0.out))
    have hbx : (w.alloc (.cells #[.slice A q c] 29)).cell? ⟨w.heap.size, 0, none⟩ = some (.slice A q c) := HC0.out
    have hbl : w.heap.size < (w.alloc (.cells #[.slice A q c] 29)).heap.size := by simp
    have HQ := Lib.hid hq
    have HN0 := Lib.hid h0
    clear h hn hm hq h0
    go_enter Tryz.func70, Tryz.ntmps70
    go_wp2_with fail
    generalize w.alloc (.cells #[.slice A q c] 29) = w1 at *
    refine HFN.out.mono ?_
    rintro e w2 ⟨rfl, hb2⟩
    have hbx2 := (hb2.cell (p := ⟨w.heap.size, 0, none⟩) hbl).trans hbx
    have HB2 := Lib.hid (HB0.out.trans (hb2.mono HB0.out.size))
    cases hfi : fi (ths l) n with
    | none =>
      rw [fv_none hfi]
      have HV := Lib.hid (dirT_none HN0.out hfi)
      clear hfi hb2
      go_wp2
      go_ret
      exact ⟨by rw [HV.out]; rfl, HB2.out⟩
    | some i =>
      rw [fv_some hfi]
      have hil := fi_lt hfi
      have HV := Lib.hid ((dirT_some HN0.out hfi).trans (isDir_at hil))
      obtain ⟨b, o, rfl, _, h0, h1, h2⟩ := (HT.out.keep hb2).at' i hil
      have hi0 : (0 : Int) ≤ (i : Int) := by omega
      have hi1 : (i : Int) < (q : Int) := by have := HQ.out; omega
      clear hfi hb2
      generalize l[i] = g at *
      obtain ⟨a, gc, gn, gd, gs⟩ := g
      simp only at h0 h1 h2 HV
      go_wp2
      go_ret
      exact ⟨by rw [HV.out]; rfl, HB2.out⟩

/-- where a path's file stands, or below 0; the error -/
def fileT (t : List Th) (p : ByteArray) : Int × Int :=
  match Pat.spl p with
  | none => (-1, 3)
  | some n => if goT t n ≠ 0 then (-1, goT t n) else if dirT t n = true then (-1, 7) else (fv t n, 0)
theorem fileT_none {t : List Th} {p : ByteArray} (h : Pat.spl p = none) : fileT t p = (-1, 3) := by unfold fileT; rw [h]
theorem fileT_go {t : List Th} {p : ByteArray} {n : Nm} (h : Pat.spl p = some n) (hg : goT t n ≠ 0) : fileT t p = (-1, goT t n) := by unfold fileT; rw [h]; exact if_pos hg
theorem fileT_dir {t : List Th} {p : ByteArray} {n : Nm} (h : Pat.spl p = some n) (hg : goT t n = 0) (hd : dirT t n = true) : fileT t p = (-1, 7) := by
  unfold fileT
  rw [h]
  exact (if_neg (fun h => h hg)).trans (if_pos hd)
theorem fileT_yes {t : List Th} {p : ByteArray} {n : Nm} (h : Pat.spl p = some n) (hg : goT t n = 0) (hd : dirT t n = false) : fileT t p = (fv t n, 0) := by
  unfold fileT
  rw [h]
  exact (if_neg (fun h => h hg)).trans (if_neg (by rw [hd]; decide))

set_option maxRecDepth 100000 in
set_option maxHeartbeats 2000000 in
theorem file_any (w : World) (A : Option Addr) (c q : Nat) (l : List Tg) (p : ByteArray) (hq : l.length = q) (h : Ths w A l) (hp : p.size < 4294967281) :
    Calls Tryz.prog 71 #[tv A q c, .string p] w fun e w' => e = .returned (.tuple #[.int .i64 (fileT (ths l) p).1, .int .i64 (fileT (ths l) p).2]) ∧ Below w.heap.size w w' := by
  have HB0 := Lib.hid ((Below.refl w.heap.size w).alloc (Nat.le_refl _) (.cells #[.slice A q c] 29))
  have HC0 := Lib.hid (Crc.alloc_cell w #[.slice A q c] 29 0)
  have HT := Lib.hid (h.keep HB0.out)
  have HS := Lib.hid (Pat.refSplit_any (w.alloc (.cells #[.slice A q c] 29)) p hp)
  have hbx : (w.alloc (.cells #[.slice A q c] 29)).cell? ⟨w.heap.size, 0, none⟩ = some (.slice A q c) := HC0.out
  have hbl : w.heap.size < (w.alloc (.cells #[.slice A q c] 29)).heap.size := by simp
  have HQ := Lib.hid hq
  clear h hq
  go_enter Tryz.func71, Tryz.ntmps71
  go_wp2_with fail
  generalize w.alloc (.cells #[.slice A q c] 29) = w1 at *
  refine HS.out.mono ?_
  rintro e w2 ⟨hb2, hs⟩
  have hbx2 := (hb2.cell (p := ⟨w.heap.size, 0, none⟩) hbl).trans hbx
  have hbl2 := Nat.lt_of_lt_of_le hbl hb2.size
  have HB2 := Lib.hid (HB0.out.trans (hb2.mono HB0.out.size))
  have HT2 := Lib.hid (HT.out.keep hb2)
  clear hb2 hbx hbl
  rcases hs with ⟨n, B, d, hsp, rfl, hn, hd, _⟩ | ⟨hsp, rfl⟩
  · have hn64 := (Pat.pth_spl hsp).1.1
    have HSP := Lib.hid hsp
    have HN2 := Lib.hid hn
    clear hsp hn
    go_wp2_with fail
    refine (go_any w2 A B c d l n q n.length HQ.out rfl HT2.out HN2.out hd (by omega)).mono ?_
    rintro e w3 ⟨rfl, hb3⟩
    have hbx3 := (hb3.cell (p := ⟨w.heap.size, 0, none⟩) hbl2).trans hbx2
    have hbl3 := Nat.lt_of_lt_of_le hbl2 hb3.size
    have HB3 := Lib.hid (HB2.out.trans (hb3.mono HB2.out.size))
    have HT3 := Lib.hid (HT2.out.keep hb3)
    have HN3 := Lib.hid (HN2.out.keep hb3)
    have HGO := Lib.hid (fileT_go (t := ths l) HSP.out)
    have HDR := Lib.hid (fileT_dir (t := ths l) HSP.out)
    have HYS := Lib.hid (fileT_yes (t := ths l) HSP.out)
    clear hb3 hbx2 hbl2 HT2 HN2
    by_cases hg : goT (ths l) n = 0
    · rw [hg]
      have HG := Lib.hid hg
      clear hg HGO
      go_wp2_with fail
      refine (dir_any w3 A B c d l n q n.length HQ.out rfl HT3.out HN3.out).mono ?_
      rintro e w4 ⟨rfl, hb4⟩
      have hbx4 := (hb4.cell (p := ⟨w.heap.size, 0, none⟩) hbl3).trans hbx3
      have HB4 := Lib.hid (HB3.out.trans (hb4.mono HB3.out.size))
      have HT4 := Lib.hid (HT3.out.keep hb4)
      have HN4 := Lib.hid (HN3.out.keep hb4)
      clear hb4 hbx3 hbl3 HT3 HN3
      cases hdr : dirT (ths l) n with
      | true =>
        have HV := Lib.hid (HDR.out HG.out hdr)
        clear hdr
        go_wp2
        refine bodyPost_ret (v := .tuple #[.int .i64 (-1), .int .i64 7]) ?_ rfl ⟨by rw [HV.out], HB4.out⟩
        simp [results, Tryz.results71, go_sem]
      | false =>
        have HV := Lib.hid (HYS.out HG.out hdr)
        clear hdr
        go_wp2_with fail
        refine (find_any w4 A B c d l n q n.length HQ.out rfl HT4.out HN4.out).mono ?_
        rintro e w5 ⟨rfl, hb5⟩
        have HB5 := Lib.hid (HB4.out.trans (hb5.mono HB4.out.size))
        clear hb5
        go_wp2
        refine bodyPost_ret (v := .tuple #[.int .i64 (fv (ths l) n), .int .i64 0]) ?_ rfl ⟨by rw [HV.out], HB5.out⟩
        simp [results, Tryz.results71, go_sem]
    · have HV := Lib.hid (HGO.out hg)
      have hg1 : (goT (ths l) n == 0) = false := by simpa using hg
      clear HGO HDR HYS
      generalize goT (ths l) n = z at *
      go_wp2
      refine bodyPost_ret (v := .tuple #[.int .i64 (-1), .int .i64 z]) ?_ rfl ⟨by rw [HV.out], HB3.out⟩
      simp [results, Tryz.results71, go_sem]
  · have HV := Lib.hid (fileT_none (t := ths l) hsp)
    clear hsp
    go_wp2
    refine bodyPost_ret (v := .tuple #[.int .i64 (-1), .int .i64 3]) ?_ rfl ⟨by rw [HV.out], HB2.out⟩
    simp [results, Tryz.results71, go_sem]
end Tre
end Go.Proofs.YtkhkcfbacnkcnaaGreatDoor
