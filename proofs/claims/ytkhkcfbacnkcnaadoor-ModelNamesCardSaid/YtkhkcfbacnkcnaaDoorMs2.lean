/- Texts laid together: TreMath, PatCut, PatLay, PatSplit, PatSplitP, EntRef, EntRefDec, EntLives, PatLives, PatPar, PatParLaw, PatKids, TreMem, PatJoin, PatRefSplit, TreGo, TreFile, TreAdd, TreSet, TreWithout, TrkMath, TrkMem, TrkLay. -/
import Derived.Test.YtkhkcfbacnkcnaaDoorMs1
import Derived.Lib.SplitLaws
import Derived.Lib.IndexBytes
import Derived.Lib.Join
import Derived.Shelf.Strings.Split
import Derived.Shelf.Strings.OnBuilder
import Derived.Ground.NamesProg
import Derived.Test.YtkhkcfbacnkcnaaDoorProg
import Derived.Laws.IdiomCopy
import Derived.Lib.LazyBuf
import Derived.Deep.RegionHeld3
import Derived.BigCall
import Derived.Deep.DeepCutAuto
import Derived.Deep.AppendLies
import Derived.Maps.OwnSet
import Derived.Maps.OwnIn
import Derived.Sort.KeysCollected
import Derived.Shelf.Strconv.Clone
/- The document's tree as a row of things: where one stands, what going to names tells, a directory's names, the order. Of no program. -/
namespace Go.Proofs.YtkhkcfbacnkcnaaDoor
open Go.RowKit Go.MapKept
namespace Tre

abbrev Nm := List ByteArray
/-- a thing: its names, whether it is a directory, its bytes -/
abbrev Th := Nm × Bool × ByteArray

/-- where a thing with these names stands -/
def fi (t : List Th) (n : Nm) : Option Nat := t.findIdx? (fun x => decide (x.1 = n))
/-- as the document tells it -/
def fv (t : List Th) (n : Nm) : Int := match fi t n with | some i => (i : Int) | none => -1
theorem fi_some {t : List Th} {n : Nm} {i : Nat} (h : fi t n = some i) : ∃ h : i < t.length, t[i].1 = n ∧ ∀ j (hj : j < i), (t[j]'(by omega)).1 ≠ n := by
  unfold fi at h
  rw [List.findIdx?_eq_some_iff_getElem] at h
  obtain ⟨h1, h2, h3⟩ := h
  exact ⟨h1, by simpa using h2, fun j hj => by simpa using h3 j hj⟩
theorem fi_at {t : List Th} {n : Nm} {i : Nat} (h : i < t.length) (e : t[i].1 = n) (hj : ∀ j (h' : j < i), (t[j]'(by omega)).1 ≠ n) : fi t n = some i := by
  unfold fi
  rw [List.findIdx?_eq_some_iff_getElem]
  exact ⟨h, by simpa using e, fun j h' => by simpa using hj j h'⟩
theorem fi_none {t : List Th} {n : Nm} (h : ∀ j (hj : j < t.length), t[j].1 ≠ n) : fi t n = none := by
  unfold fi
  rw [List.findIdx?_eq_none_iff]
  intro x hx
  obtain ⟨j, hj, rfl⟩ := List.getElem_of_mem hx
  simpa using h j hj

/-- is the thing at i a directory? -/
def isDirAt (t : List Th) (i : Nat) : Bool := match t[i]? with | some x => x.2.1 | none => false
/-- is it a directory (the root is)? -/
def dirT (t : List Th) (n : Nm) : Bool := if n = [] then true else match fi t n with | some i => isDirAt t i | none => false

/-- what going to names tells from the n-th on -/
def goF (t : List Th) (n : Nm) : Nat → Nat → Int
  | 0, _ => 0
  | f + 1, k => match fi t (n.take k) with
    | none => 4
    | some i => if k < n.length ∧ isDirAt t i = false then 6 else goF t n f (k + 1)
def goT (t : List Th) (n : Nm) : Int := goF t n n.length 1
end Tre
end Go.Proofs.YtkhkcfbacnkcnaaDoor
/- A text cut at each 47, names put together to a path: of no program. -/
namespace Go.Proofs.YtkhkcfbacnkcnaaDoor
open Go.RowKit Go.MapKept
namespace Pat

/-- a piece's bytes ahead of the first one's -/
def glue (x : List UInt8) : List (List UInt8) → List (List UInt8)
  | [] => [x]
  | p :: ps => (x ++ p) :: ps
/-- cut at each 47 -/
def cut : List UInt8 → List (List UInt8)
  | [] => [[]]
  | b :: l => if b = 47 then [] :: cut l else glue [b] (cut l)
theorem glue_glue (x y : List UInt8) (c : List (List UInt8)) : glue x (glue y c) = glue (x ++ y) c := by
  cases c <;> simp [glue]
theorem glue_none {c : List (List UInt8)} (h : c ≠ []) : glue [] c = c := by
  cases c with
  | nil => exact absurd rfl h
  | cons => rfl
theorem glue_len (x : List UInt8) {c : List (List UInt8)} (h : c ≠ []) : (glue x c).length = c.length := by
  cases c with
  | nil => exact absurd rfl h
  | cons => rfl
theorem cut_ne : ∀ l, cut l ≠ []
  | [] => by simp [cut]
  | b :: l => by
    rw [cut]
    split
    · simp
    · cases cut l <;> simp [glue]
theorem cut_len : ∀ l, (cut l).length ≤ l.length + 1
  | [] => by simp [cut]
  | b :: l => by
    have := cut_len l
    rw [cut]
    split
    · simp; omega
    · rw [glue_len _ (cut_ne l)]; simp; omega

/-- where the first 47 stands -/
theorem cut_at : ∀ l, (Lib.indexByte l 47 = -1 → cut l = [l]) ∧ ∀ i : Nat, Lib.indexByte l 47 = (i : Int) → cut l = l.take i :: cut (l.drop (i + 1))
  | [] => ⟨fun _ => rfl, fun i h => by
    rw [Lib.indexByte] at h
    omega⟩
  | b :: l => by
    obtain ⟨h1, h2⟩ := cut_at l
    have hge := Lib.indexByte_ge l 47
    rw [cut, Lib.indexByte]
    by_cases hb : b = 47
    · subst hb
      rw [if_pos rfl, if_pos (by simp)]
      refine ⟨fun h => by omega, fun i h => ?_⟩
      obtain rfl : i = 0 := by omega
      simp
    · rw [if_neg hb, if_neg (by simpa using hb)]
      by_cases hm : Lib.indexByte l 47 = -1
      · rw [hm, if_pos (by simp), h1 hm]
        exact ⟨fun _ => rfl, fun i h => by omega⟩
      · rw [if_neg (by simpa using hm)]
        refine ⟨fun h => by omega, fun i h => ?_⟩
        obtain ⟨j, rfl⟩ : ∃ j, i = j + 1 := ⟨i - 1, by omega⟩
        rw [h2 j (by omega)]
        simp [glue]
theorem splitK_few : ∀ (k : Nat) (l : List UInt8), (cut l).length ≤ k + 1 → Lib.splitK [47] 0 k l = cut l
  | 0, l, h => by
    rw [Lib.splitK]
    rcases Int.lt_or_le (Lib.indexByte l 47) 0 with hi | hi
    · have := Lib.indexByte_ge l 47
      rw [(cut_at l).1 (by omega)]
    · obtain ⟨i, hi⟩ := Int.eq_ofNat_of_zero_le hi
      rw [(cut_at l).2 i hi] at h
      have := cut_ne (l.drop (i + 1))
      have := List.length_pos_iff.2 this
      rw [List.length_cons] at h
      omega
  | k + 1, l, h => by
    rw [Lib.splitK, Lib.index_one]
    rcases Int.lt_or_le (Lib.indexByte l 47) 0 with hi | hi
    · have := Lib.indexByte_ge l 47
      have hm : Lib.indexByte l 47 = -1 := by omega
      rw [hm, if_pos (by decide), (cut_at l).1 hm]
    · obtain ⟨i, hi⟩ := Int.eq_ofNat_of_zero_le hi
      have hc := (cut_at l).2 i hi
      rw [hc] at h
      rw [hi, if_neg (by simp), hc, splitK_few k _ (by simp at h ⊢; omega)]
      simp
theorem splitK_many : ∀ (k : Nat) (l : List UInt8), k + 1 ≤ (cut l).length → (Lib.splitK [47] 0 k l).length = k + 1
  | 0, l, _ => rfl
  | k + 1, l, h => by
    rw [Lib.splitK, Lib.index_one]
    rcases Int.lt_or_le (Lib.indexByte l 47) 0 with hi | hi
    · have := Lib.indexByte_ge l 47
      rw [(cut_at l).1 (by omega)] at h
      simp at h
    · obtain ⟨i, hi⟩ := Int.eq_ofNat_of_zero_le hi
      rw [(cut_at l).2 i hi] at h
      rw [hi, if_neg (by simp), List.length_cons]
      have := splitK_many k (l.drop (i + 1)) (by simp at h; omega)
      simpa using this

/-- the text of bytes -/
abbrev mk (l : List UInt8) : ByteArray := ⟨l.toArray⟩
theorem mk_data (s : ByteArray) : mk s.data.toList = s := rfl
theorem data_mk (l : List UInt8) : (mk l).data.toList = l := by simp
theorem map_mk (m : List ByteArray) : (m.map (·.data.toList)).map mk = m := by
  rw [List.map_map]
  have : (mk ∘ fun s : ByteArray => s.data.toList) = id := rfl
  rw [this, List.map_id]
theorem map_data (m : List (List UInt8)) : (m.map mk).map (·.data.toList) = m := by
  rw [List.map_map]
  have : ((fun s : ByteArray => s.data.toList) ∘ mk) = id := by
    funext l
    exact data_mk l
  rw [this, List.map_id]

/-- these are a path's names -/
def IsNames (l : List ByteArray) : Prop := l.length ≤ 64 ∧ ∀ n ∈ l, Ent.Right (Crc.tx n)
instance (l : List ByteArray) : Decidable (IsNames l) := by unfold IsNames; infer_instance
def isNames (l : List ByteArray) : Bool := decide (IsNames l)

/-- a path's names -/
def spl (s : ByteArray) : Option (List ByteArray) :=
  match s.data.toList with
  | [] => none
  | b :: r => if b = 47 then (if r = [] then some [] else if IsNames ((cut r).map mk) then some ((cut r).map mk) else none) else none
/-- names' path -/
def pth (l : List ByteArray) : ByteArray := if l = [] then mk [47] else mk (Lib.joinTail [47] (l.map (·.data.toList)))

theorem joinTail_cons (x : List UInt8) (r : List (List UInt8)) : Lib.joinTail [47] (x :: r) = 47 :: (x ++ Lib.joinTail [47] r) := by
  simp [Lib.joinTail]
theorem joinTail_snoc (r : List (List UInt8)) (x : List UInt8) : Lib.joinTail [47] (r ++ [x]) = Lib.joinTail [47] r ++ [47] ++ x := by
  simp [Lib.joinTail]
theorem tail_glue (x : List UInt8) {c : List (List UInt8)} (h : c ≠ []) : Lib.joinTail [47] (glue x c) = 47 :: (x ++ (Lib.joinTail [47] c).drop 1) := by
  cases c with
  | nil => exact absurd rfl h
  | cons p ps => rw [glue, joinTail_cons, joinTail_cons]; simp
theorem tail_cut : ∀ l, Lib.joinTail [47] (cut l) = 47 :: l
  | [] => by simp [cut, Lib.joinTail]
  | b :: l => by
    rw [cut]
    split
    · rename_i hb
      rw [joinTail_cons, tail_cut l, hb]
      rfl
    · rw [tail_glue _ (cut_ne l), tail_cut l]
      rfl
theorem cut_plain : ∀ (x l : List UInt8), (∀ b ∈ x, b ≠ 47) → cut (x ++ l) = glue x (cut l)
  | [], l, _ => (glue_none (cut_ne l)).symm
  | b :: x, l, h => by
    rw [List.cons_append, cut, if_neg (h b (by simp)), cut_plain x l (fun c hc => h c (by simp [hc])), glue_glue]
    rfl
theorem cut_tail : ∀ (r : List (List UInt8)) (x : List UInt8), (∀ b ∈ x, b ≠ 47) → (∀ y ∈ r, ∀ b ∈ y, b ≠ 47) → cut (x ++ Lib.joinTail [47] r) = x :: r
  | [], x, hx, _ => by
    have := cut_plain x [] hx
    rw [show Lib.joinTail [47] [] = [] from rfl, this]
    simp [cut, glue]
  | y :: r, x, hx, hr => by
    rw [cut_plain _ _ hx, joinTail_cons, cut, if_pos rfl, cut_tail r y (hr y (by simp)) (fun z hz => hr z (by simp [hz]))]
    simp [glue]

theorem right_plain {s : ByteArray} (h : Ent.Right (Crc.tx s)) : (∀ b ∈ s.data.toList, b ≠ 47) ∧ s.data.toList ≠ [] := by
  refine ⟨fun b hb e => ?_, fun e => ?_⟩
  · have : b.toNat ∈ Crc.tx s := List.mem_map_of_mem hb
    have := (h.2.2.2 _ this).2
    subst e
    exact this rfl
  · have := h.1.1
    unfold Crc.tx at this
    rw [e] at this
    simp at this
theorem spl_pth {l : List ByteArray} (h : IsNames l) : spl (pth l) = some l := by
  cases l with
  | nil => rfl
  | cons x r =>
    have hx := right_plain (h.2 x (by simp))
    have e : (pth (x :: r)).data.toList = 47 :: (x.data.toList ++ Lib.joinTail [47] (r.map (·.data.toList))) := by
      unfold pth
      rw [if_neg (by simp), data_mk, List.map_cons, joinTail_cons]
    have hc := cut_tail (r.map (·.data.toList)) x.data.toList hx.1 (fun y hy => by
      obtain ⟨z, hz, rfl⟩ := List.mem_map.1 hy
      exact (right_plain (h.2 z (by simp [hz]))).1)
    have hm : (cut (x.data.toList ++ Lib.joinTail [47] (r.map (·.data.toList)))).map mk = x :: r := by
      rw [hc]
      exact map_mk (x :: r)
    unfold spl
    rw [e]
    simp only [if_true]
    rw [if_neg (by simp [hx.2]), hm, if_pos h]
theorem pth_spl {s : ByteArray} {l : List ByteArray} (h : spl s = some l) : IsNames l ∧ pth l = s := by
  unfold spl at h
  split at h
  · cases h
  · rename_i b r e
    split at h
    · rename_i hb
      subst hb
      split at h
      · rename_i hr
        subst hr
        injection h with h
        subst h
        refine ⟨⟨by simp, fun n hn => by simp at hn⟩, ?_⟩
        rw [← mk_data s, e]
        rfl
      · split at h
        · rename_i hi
          injection h with h
          subst h
          refine ⟨hi, ?_⟩
          unfold pth
          rw [if_neg (by simp [cut_ne]), map_data, tail_cut, ← e, mk_data]
        · cases h
    · cases h
theorem pth_join (l : List ByteArray) : pth l = mk (47 :: Lib.join (l.map (·.data.toList)) [47]) := by
  cases l with
  | nil => rfl
  | cons x r =>
    unfold pth
    rw [if_neg (by simp), List.map_cons, joinTail_cons, Lib.join_cons]
end Pat
end Go.Proofs.YtkhkcfbacnkcnaaDoor
/- The library's bodies (strings.SplitN, strings.Join) as they stand in this program, in plain words. -/
namespace Go.Proofs
open Go.Shelf
def Tryd.splitA_ren : Go.Shelf.Ren := ⟨fun | 147 => 35 | 221 => 47 | 268 => 55 | 138 => 56 | 143 => 57 | 195 => 60 | 197 => 61 | 218 => 62 | 219 => 63 | 260 => 64 | 217 => 65 | 225 => 66 | 224 => 67 | 267 => 68 | 266 => 69 | 314 => 70 | n => n, fun | 9 => 9 | 3 => 3 | 31 => 24 | 4 => 4 | 0 => 0 | 105 => 96 | 21 => 21 | 5 => 5 | 46 => 99 | 119 => 101 | 139 => 104 | 138 => 103 | 146 => 105 | 51 => 84 | n => n, fun | 1 => 1 | 3 => 2 | 4 => 3 | n => n⟩
theorem Tryd.splitA : Go.Proofs.Lays.n147 Tryd.prog Tryd.splitA_ren := {
  mixed := by kernel_rfl
  f138 := Tryd.func56.trans (congrArg some (by kernel_rfl))
  f143 := Tryd.func57.trans (congrArg some (by kernel_rfl))
  f147 := Tryd.func35.trans (congrArg some (by kernel_rfl))
  f195 := Tryd.func60.trans (congrArg some (by kernel_rfl))
  f197 := Tryd.func61.trans (congrArg some (by kernel_rfl))
  f217 := Tryd.func65.trans (congrArg some (by kernel_rfl))
  f218 := Tryd.func62.trans (congrArg some (by kernel_rfl))
  f219 := Tryd.func63.trans (congrArg some (by kernel_rfl))
  f221 := Tryd.func47.trans (congrArg some (by kernel_rfl))
  f224 := Tryd.func67.trans (congrArg some (by kernel_rfl))
  f225 := Tryd.func66.trans (congrArg some (by kernel_rfl))
  f260 := Tryd.func64.trans (congrArg some (by kernel_rfl))
  f266 := Tryd.func69.trans (congrArg some (by kernel_rfl))
  f267 := Tryd.func68.trans (congrArg some (by kernel_rfl))
  f268 := Tryd.func55.trans (congrArg some (by kernel_rfl))
  f314 := Tryd.func70.trans (congrArg some (by kernel_rfl))
  t0 := Tryd.underlying0
  a0 := Tryd.isAgg0
  z0 := Tryd.sizeOf0
  v0 := Tryd.zeroValue0
  t3 := Tryd.underlying3
  a3 := Tryd.isAgg3
  z3 := Tryd.sizeOf3
  v3 := Tryd.zeroValue3
  t4 := Tryd.underlying4
  a4 := Tryd.isAgg4
  z4 := Tryd.sizeOf4
  v4 := Tryd.zeroValue4
  t5 := Tryd.underlying5
  a5 := Tryd.isAgg5
  z5 := Tryd.sizeOf5
  v5 := Tryd.zeroValue5
  t9 := Tryd.underlying9
  a9 := Tryd.isAgg9
  z9 := Tryd.sizeOf9
  v9 := Tryd.zeroValue9
  t21 := Tryd.underlying21
  a21 := Tryd.isAgg21
  z21 := Tryd.sizeOf21
  v21 := Tryd.zeroValue21
  t31 := Tryd.underlying24
  a31 := Tryd.isAgg24
  z31 := Tryd.sizeOf24
  v31 := Tryd.zeroValue24
  t46 := Tryd.underlying99
  a46 := Tryd.isAgg99
  z46 := Tryd.sizeOf99
  v46 := Tryd.zeroValue99
  t51 := Tryd.underlying84
  a51 := Tryd.isAgg84
  z51 := Tryd.sizeOf84
  v51 := Tryd.zeroValue84
  t105 := Tryd.underlying96
  a105 := Tryd.isAgg96
  z105 := Tryd.sizeOf96
  v105 := Tryd.zeroValue96
  t119 := Tryd.underlying101
  a119 := Tryd.isAgg101
  z119 := Tryd.sizeOf101
  t138 := Tryd.underlying103
  a138 := Tryd.isAgg103
  z138 := Tryd.sizeOf103
  v138 := Tryd.zeroValue103
  t139 := Tryd.underlying104
  a139 := Tryd.isAgg104
  z139 := Tryd.sizeOf104
  v139 := Tryd.zeroValue104
  t146 := Tryd.underlying105
  a146 := Tryd.isAgg105
  z146 := Tryd.sizeOf105
  v146 := Tryd.zeroValue105
  g1 := by kernel_rfl
  g3 := by kernel_rfl
  g4 := by kernel_rfl }
end Go.Proofs
/- The program's Split, and whether texts are a path's names. -/
namespace Go.Proofs.YtkhkcfbacnkcnaaDoor
open Go.RowKit Go.MapKept Go.Shelf
namespace Pat

theorem isNames_no {l : List ByteArray} (h : ¬ IsNames l) : isNames l = false := decide_eq_false h
set_option maxHeartbeats 1000000 in
theorem right_any (w : World) (A : Option Addr) (c n : Nat) (l : List ByteArray) (h : Txs w A l) (hn : l.length = n) :
    Calls Tryd.prog 36 #[.slice A n c] w fun e w' => e = .returned (.bool (isNames l)) ∧ w' = w := by
  subst hn
  have hl := h.len
  have H := Lib.hid h
  clear h
  by_cases h64 : l.length ≤ 64
  · have hg : ¬ (64 : Int) < (l.length : Int) := by omega
    go_enter Tryd.func36, Tryd.ntmps36
    go_wp2
    go_loopw [10] (fun i wr => ∃ k : Nat, k ≤ l.length ∧ i = .int .i64 (k : Int) ∧ wr = w ∧ ∀ s ∈ l.take k, Ent.Right (Crc.tx s)) (fun i _ => l.length - (intOf i).toNat)
    case atStart => exact ⟨0, Nat.zero_le _, rfl, rfl, fun s hs => by simp at hs⟩
    case round =>
      obtain ⟨k, hk, rfl, rfl, hr⟩ := hrel
      have HR := Lib.hid hr
      clear hr
      by_cases hlt : k < l.length
      · obtain ⟨b, o, rfl, _, hc0⟩ := H.out.at' k hlt
        have hs := H.out.size _ (List.getElem_mem hlt)
        have HT := Lib.hid (show l.take (k + 1) = l.take k ++ [l[k]] from List.take_succ_eq_append_getElem hlt)
        have HM := Lib.hid (List.getElem_mem hlt)
        generalize l[k] = s at *
        by_cases hr : Ent.Right (Crc.tx s)
        · have hrb : Ent.right (Crc.tx s) = true := Ent.right_iff.2 hr
          have HX := Lib.hid hr
          clear hr
          go_wp2_with fail
          refine (Ent.right_any _ s hs).mono ?_
          rintro e w' ⟨rfl, rfl⟩
          rw [hrb]
          go_wp2
          refine ⟨⟨k + 1, by omega, by go_num, by first | rfl | trivial, ?_⟩, by simp [intOf]; omega⟩
          rw [HT.out]
          intro x hx
          rcases List.mem_append.1 hx with h1 | h1
          · exact HR.out x h1
          · obtain rfl : x = s := by simpa using h1
            exact HX.out
        · have hrb : Ent.right (Crc.tx s) = false := Ent.right_no hr
          have HX := Lib.hid (isNames_no (l := l) (fun h => hr (h.2 _ HM.out)))
          clear hr
          go_wp2_with fail
          refine (Ent.right_any _ s hs).mono ?_
          rintro e w' ⟨rfl, rfl⟩
          rw [hrb]
          go_wp2
          go_ret
          exact ⟨by rw [HX.out]; rfl, rfl⟩
      · obtain rfl : k = l.length := by omega
        rw [List.take_length] at HR
        have HX := Lib.hid (show isNames l = true from decide_eq_true ⟨h64, HR.out⟩)
        go_wp2
        go_ret
        exact ⟨by rw [HX.out]; rfl, rfl⟩
  · have hg : (64 : Int) < (l.length : Int) := by omega
    have HX := Lib.hid (isNames_no (l := l) (fun h => h64 h.1))
    go_enter Tryd.func36, Tryd.ntmps36
    go_wp2
    go_ret
    exact ⟨by rw [HX.out]; rfl, rfl⟩

/-! The library's SplitN at one byte. -/
theorem index_one (w : World) (x : ByteArray) (c : Array Value) (t : TypeId) : Calls Tryd.prog 57 #[.string x, .string ⟨#[47]⟩] (w.alloc (.cells c t)) fun e w' => e = .returned (.int .i64 (Lib.indexB x ⟨#[47]⟩)) ∧ w' = w.alloc (.cells c t) :=
  (Any.strings_Index_one { Tryd.splitA with } x 47 (w.alloc (.cells c t))).mono fun e w' ⟨he, hw⟩ => ⟨by
    rw [he]
    show _ = Ending.returned (Value.int .i64 (Lib.index x.data.toList [47]))
    rw [Lib.index_one], hw⟩
theorem count_one (w : World) (s : ByteArray) : Calls Tryd.prog 56 #[.string s, .string ⟨#[47]⟩] w fun e w' => e = .returned (.int .i64 (Lib.countB s ⟨#[47]⟩)) ∧ w' = w :=
  (Any.strings_Count_one { Tryd.splitA with } s 47 w).mono fun e w' ⟨he, hw⟩ => ⟨by
    rw [he]
    show _ = Ending.returned (Value.int .i64 ((Lib.count s.data.toList [47] : Nat) : Int))
    rw [Lib.count_one]
    rfl, hw⟩
/-- what 65 pieces at most come to -/
theorem pieces_few {s : ByteArray} (h : (cut s.data.toList).length ≤ 64) : Lib.splitB ⟨#[47]⟩ 0 (min 65 (s.size + 1) - 1) s = (cut s.data.toList).map mk := by
  have h1 := Lib.splitB_data ⟨#[47]⟩ 0 (min 65 (s.size + 1) - 1) s
  have hl := cut_len s.data.toList
  rw [← Lib.size_eq] at hl
  have h2 : Lib.splitK [47] 0 (min 65 (s.size + 1) - 1) s.data.toList = cut s.data.toList := splitK_few _ _ (by omega)
  have h3 := congrArg (List.map mk) (h1.trans h2)
  rw [map_mk] at h3
  exact h3
theorem pieces_many {s : ByteArray} (h : ¬ (cut s.data.toList).length ≤ 64) : (Lib.splitB ⟨#[47]⟩ 0 (min 65 (s.size + 1) - 1) s).length = 65 := by
  have h1 := congrArg List.length (Lib.splitB_data ⟨#[47]⟩ 0 (min 65 (s.size + 1) - 1) s)
  have hl := cut_len s.data.toList
  rw [← Lib.size_eq] at hl
  have hk : min 65 (s.size + 1) - 1 = 64 := by omega
  rw [hk] at h1 ⊢
  rw [List.length_map] at h1
  rw [h1]
  exact splitK_many 64 s.data.toList (by omega)
theorem piece_size (k : Nat) : ∀ (s : ByteArray), ∀ x ∈ Lib.splitB ⟨#[47]⟩ 0 k s, x.size ≤ s.size := by
  induction k with
  | zero =>
    intro s x hx
    rw [Lib.splitB_zero] at hx
    obtain rfl : x = s := by simpa using hx
    exact Nat.le_refl _
  | succ k ih =>
    intro s x hx
    rcases Lib.indexB_cases s ⟨#[47]⟩ with hix | ⟨i, hix, hroom⟩
    · rw [Lib.splitB_miss _ _ _ _ hix] at hx
      obtain rfl : x = s := by simpa using hx
      exact Nat.le_refl _
    · rw [Lib.splitB_hit _ _ _ _ i hix] at hx
      rcases List.mem_cons.1 hx with rfl | hx
      · rw [ByteArray.size_extract]; omega
      · have := ih _ x hx
        rw [ByteArray.size_extract] at this
        omega
theorem cells_txs (w : World) (l : List ByteArray) (N : Nat) (t : TypeId) (hs : ∀ s ∈ l, s.size ≤ 9223372036854775807) (hl : l.length ≤ 9223372036854775807) : Txs (w.alloc (.cells (Lib.cellsOf l N) t)) (some ⟨w.heap.size, 0, none⟩) l :=
  ⟨hs, hl, fun j hj => ⟨w.heap.size, 0, rfl, by simp, by
    rw [Nat.zero_add, World.cell?_alloc_mark]
    unfold Lib.cellsOf
    rw [List.getElem?_toArray, List.getElem?_append_left (by simpa using hj), List.getElem?_map, List.getElem?_eq_getElem hj]
    rfl⟩⟩

/-- names that a call made -/
def GotN (w : World) (l : List ByteArray) (c : Nat) (e : Ending) (w' : World) : Prop :=
  ∃ A, e = .returned (.slice A l.length c) ∧ l.length ≤ c ∧ Txs w' A l ∧ Below w.heap.size w w'
set_option maxRecDepth 100000 in
set_option maxHeartbeats 1000000 in
theorem splitN_any (w : World) (s : ByteArray) (hs : s.size < 4294967281) :
    Calls Tryd.prog 35 #[.string s, .string ⟨#[47]⟩, .int .i64 65] w (GotN w (Lib.splitB ⟨#[47]⟩ 0 (min 65 (s.size + 1) - 1) s) (min 65 (s.size + 1))) := by
  have c := Any.strings_genSplit_core { Tryd.splitA with } str_info s ⟨#[47]⟩ 0 65 (min 65 (s.size + 1)) w hs (by decide) (Nat.zero_le _) (fun x c _ => index_one w x c 9) (count_one w s) (by decide) (by decide) (by rw [if_neg (by decide)]; omega)
  have hle := Lib.splitB_length_le ⟨#[47]⟩ 0 (min 65 (s.size + 1) - 1) s
  have hps := piece_size (min 65 (s.size + 1) - 1) s
  have HT := Lib.hid (cells_txs w (Lib.splitB ⟨#[47]⟩ 0 (min 65 (s.size + 1) - 1) s) (min 65 (s.size + 1)) 9 (fun x hx => by have := hps x hx; omega) (by omega))
  have HC := Lib.hid (show Calls Tryd.prog 47 #[.string s, .string ⟨#[47]⟩, .int .i64 0, .int .i64 65] w _ from c)
  have HL := Lib.hid (show (Lib.splitB ⟨#[47]⟩ 0 (min 65 (s.size + 1) - 1) s).length ≤ min 65 (s.size + 1) by omega)
  have HB := Lib.hid ((Below.refl w.heap.size w).alloc (Nat.le_refl _) (.cells (Lib.cellsOf (Lib.splitB ⟨#[47]⟩ 0 (min 65 (s.size + 1) - 1) s) (min 65 (s.size + 1))) 9))
  clear c hle hps
  go_enter Tryd.func35, Tryd.ntmps35
  go_wp2_with fail
  refine HC.out.mono ?_
  rintro e w1 ⟨rfl, hw⟩
  have HX := Lib.hid (show GotN w (Lib.splitB ⟨#[47]⟩ 0 (min 65 (s.size + 1) - 1) s) (min 65 (s.size + 1)) (.returned (.slice (some ⟨w.heap.size, 0, none⟩) (Lib.splitB ⟨#[47]⟩ 0 (min 65 (s.size + 1) - 1) s).length (min 65 (s.size + 1)))) w1 by
    rw [hw]
    exact ⟨_, rfl, HL.out, HT.out, HB.out⟩)
  clear hw HC HT HL HB
  go_wp2
  go_ret
  exact HX.out

/-! Split. -/
/-- what Split answers -/
def SplR (w : World) (s : ByteArray) (e : Ending) (w' : World) : Prop :=
  Below w.heap.size w w' ∧ ((∃ l A c, spl s = some l ∧ e = .returned (.tuple #[.slice A l.length c, .int .i64 0]) ∧ l.length ≤ c ∧ Txs w' A l) ∨ (spl s = none ∧ e = .returned (.tuple #[.slice none 0 0, .int .i64 3])))
theorem spl_root {s : ByteArray} (h : s.toList = [47]) : spl s = some [] := by
  have : s.data.toList = [47] := by rw [← Lib.toList_data]; exact h
  unfold spl
  rw [this]
  rfl
theorem data_cons {s : ByteArray} (h0 : 0 < s.size) : s.data.toList = s[0] :: (s.extract 1 s.size).data.toList := by
  rw [Lib.extract_to_end]
  have h1 := Lib.data_getElem? s 0 h0
  cases e : s.data.toList with
  | nil => rw [e] at h1; simp at h1
  | cons b l =>
    rw [e] at h1
    simp at h1
    rw [h1]
    rfl
theorem spl_cons {s : ByteArray} (h0 : 0 < s.size) (hb : s[0] = 47) (h1 : s.toList ≠ [47]) : spl s = if IsNames ((cut (s.extract 1 s.size).data.toList).map mk) then some ((cut (s.extract 1 s.size).data.toList).map mk) else none := by
  have e := data_cons h0
  rw [hb] at e
  have hr : (s.extract 1 s.size).data.toList ≠ [] := fun h => h1 (by rw [Lib.toList_data, e, h])
  unfold spl
  rw [e]
  simp only [if_true]
  rw [if_neg hr]
theorem spl_other {s : ByteArray} (h : ∀ h0 : 0 < s.size, s[0] ≠ 47) : spl s = none := by
  by_cases h0 : 0 < s.size
  · have e := data_cons h0
    unfold spl
    rw [e]
    simp only
    rw [if_neg (h h0)]
  · have : s.data.toList = [] := List.length_eq_zero_iff.1 (by rw [← Lib.size_eq]; omega)
    unfold spl
    rw [this]
theorem head_text {s : ByteArray} (h0 : 0 < s.size) : (s.extract 0 1).toList = [s[0]] := by
  rw [Lib.toList_data, Lib.extract_from_zero, data_cons h0]
  rfl
end Pat
end Go.Proofs.YtkhkcfbacnkcnaaDoor
/- The program's Split. -/
namespace Go.Proofs.YtkhkcfbacnkcnaaDoor
open Go.RowKit Go.MapKept Go.Shelf
namespace Pat

set_option maxHeartbeats 1000000 in
theorem cutPrefix_yes (w : World) (s : ByteArray) (hs : s.size ≤ 9223372036854775807) (h0 : 0 < s.size) (hb : s[0] = 47) :
    Calls Tryd.prog 34 #[.string s, .string ⟨#[47]⟩] w fun e w' => e = .returned (.tuple #[.string (s.extract 1 s.size), .bool true]) ∧ w' = w := by
  have h1 := head_text h0
  rw [hb] at h1
  have h2 : ((s.extract 0 1).toList == [47]) = true := by rw [h1]; rfl
  have h3 : (1 : Int) ≤ (s.size : Int) := by omega
  clear hb
  go_enter Tryd.func34, Tryd.ntmps34
  go_wp2
  refine bodyPost_ret (v := .tuple #[.string (s.extract 1 s.size), .bool true]) ?_ rfl ⟨rfl, rfl⟩
  simp [results, Tryd.results34, go_sem]
set_option maxHeartbeats 1000000 in
theorem cutPrefix_no (w : World) (s : ByteArray) (hs : s.size ≤ 9223372036854775807) (h : ∀ h0 : 0 < s.size, s[0] ≠ 47) :
    Calls Tryd.prog 34 #[.string s, .string ⟨#[47]⟩] w fun e w' => e = .returned (.tuple #[.string s, .bool false]) ∧ w' = w := by
  by_cases h0 : 0 < s.size
  · have h1 := head_text h0
    have hb := h h0
    have h2 : ((s.extract 0 1).toList == [47]) = false := by rw [h1]; simpa using hb
    have h4 : ¬ (s.extract 0 1).toList = [47] := by rw [h1]; simpa using hb
    have h3 : (1 : Int) ≤ (s.size : Int) := by omega
    clear h hb h1
    go_enter Tryd.func34, Tryd.ntmps34
    go_wp2
    refine bodyPost_ret (v := .tuple #[.string s, .bool false]) ?_ rfl ⟨rfl, rfl⟩
    simp [results, Tryd.results34, go_sem]
  · have h3 : ¬ (1 : Int) ≤ (s.size : Int) := by omega
    clear h
    go_enter Tryd.func34, Tryd.ntmps34
    go_wp2
    refine bodyPost_ret (v := .tuple #[.string s, .bool false]) ?_ rfl ⟨rfl, rfl⟩
    simp [results, Tryd.results34, go_sem]

set_option maxRecDepth 100000 in
set_option maxHeartbeats 1000000 in
theorem split_any (w : World) (s : ByteArray) (hs : s.size < 4294967281) :
    Calls Tryd.prog 23 #[.string s] w (SplR w s) := by
  have hs2 : s.size ≤ 9223372036854775807 := by omega
  have hsz : (s.extract 1 s.size).size < 4294967281 := by rw [ByteArray.size_extract]; omega
  by_cases hr : s.toList = [47]
  · have HX := Lib.hid (show SplR w s (.returned (.tuple #[.slice none 0 0, .int .i64 0])) w from ⟨Below.refl _ _, .inl ⟨[], none, 0, spl_root hr, rfl, Nat.le_refl _, txs_nil _ _⟩⟩)
    go_enter Tryd.func23, Tryd.ntmps23
    go_wp2
    refine bodyPost_ret (v := .tuple #[.slice none 0 0, .int .i64 0]) ?_ rfl HX.out
    simp [results, Tryd.results23, go_sem]
  · have hr1 : (s.toList == [47]) = false := by simpa using hr
    by_cases hh : ∀ h0 : 0 < s.size, s[0] ≠ 47
    · have HX := Lib.hid (show SplR w s (.returned (.tuple #[.slice none 0 0, .int .i64 3])) w from ⟨Below.refl _ _, .inr ⟨spl_other hh, rfl⟩⟩)
      have HC := Lib.hid (cutPrefix_no w s hs2 hh)
      clear hh
      go_enter Tryd.func23, Tryd.ntmps23
      go_wp2_with fail
      refine HC.out.mono ?_
      rintro e w1 ⟨rfl, rfl⟩
      go_wp2
      refine bodyPost_ret (v := .tuple #[.slice none 0 0, .int .i64 3]) ?_ rfl HX.out
      simp [results, Tryd.results23, go_sem]
    · obtain ⟨h0, hb⟩ : ∃ h0 : 0 < s.size, s[0] = 47 := by
        by_cases h0 : 0 < s.size
        · refine ⟨h0, ?_⟩
          by_cases hb : s[0] = 47
          · exact hb
          · exact absurd (fun _ => hb) hh
        · exact absurd (fun h => absurd h h0) hh
      have hsp := spl_cons h0 hb hr
      have HC := Lib.hid (cutPrefix_yes w s hs2 h0 hb)
      have HN := Lib.hid (splitN_any w (s.extract 1 s.size) hsz)
      clear hh hb
      generalize s.extract 1 s.size = r at *
      by_cases hn : IsNames (Lib.splitB ⟨#[47]⟩ 0 (min 65 (r.size + 1) - 1) r)
      · have hnb : isNames (Lib.splitB ⟨#[47]⟩ 0 (min 65 (r.size + 1) - 1) r) = true := decide_eq_true hn
        have hfew : (cut r.data.toList).length ≤ 64 := by
          by_cases h : (cut r.data.toList).length ≤ 64
          · exact h
          · have h1 := pieces_many h
            have := hn.1
            omega
        have hpc := pieces_few hfew
        have hsp2 : spl s = some (Lib.splitB ⟨#[47]⟩ 0 (min 65 (r.size + 1) - 1) r) := by
          rw [hsp, ← hpc, if_pos hn]
        have HS := Lib.hid hsp2
        clear hsp hfew hpc hn hsp2
        generalize Lib.splitB ⟨#[47]⟩ 0 (min 65 (r.size + 1) - 1) r = l at *
        go_enter Tryd.func23, Tryd.ntmps23
        go_wp2_with fail
        refine HC.out.mono ?_
        rintro e w1 ⟨rfl, rfl⟩
        go_wp2_with fail
        refine HN.out.mono ?_
        rintro e w2 ⟨A, rfl, hc, ht, hb⟩
        have HT := Lib.hid ht
        have HX := Lib.hid (show SplR w1 s (.returned (.tuple #[.slice A l.length (min 65 (r.size + 1)), .int .i64 0])) w2 from ⟨hb, .inl ⟨l, A, _, HS.out, rfl, hc, ht⟩⟩)
        clear hc ht hb
        generalize min 65 (r.size + 1) = c at *
        go_wp2_with fail
        refine (right_any w2 A c l.length l HT.out rfl).mono ?_
        rintro e w3 ⟨rfl, rfl⟩
        rw [hnb]
        go_wp2
        refine bodyPost_ret (v := .tuple #[.slice A l.length c, .int .i64 0]) ?_ rfl HX.out
        simp [results, Tryd.results23, go_sem]
      · have hnb : isNames (Lib.splitB ⟨#[47]⟩ 0 (min 65 (r.size + 1) - 1) r) = false := decide_eq_false hn
        have hsp2 : spl s = none := by
          rw [hsp]
          refine if_neg (fun h => hn ?_)
          have hfew : (cut r.data.toList).length ≤ 64 := by
            have := h.1
            rw [List.length_map] at this
            exact this
          rw [pieces_few hfew]
          exact h
        have HS := Lib.hid hsp2
        clear hsp hn hsp2
        generalize Lib.splitB ⟨#[47]⟩ 0 (min 65 (r.size + 1) - 1) r = l at *
        go_enter Tryd.func23, Tryd.ntmps23
        go_wp2_with fail
        refine HC.out.mono ?_
        rintro e w1 ⟨rfl, rfl⟩
        go_wp2_with fail
        refine HN.out.mono ?_
        rintro e w2 ⟨A, rfl, hc, ht, hb⟩
        have HT := Lib.hid ht
        have HX := Lib.hid (show SplR w1 s (.returned (.tuple #[.slice none 0 0, .int .i64 3])) w2 from ⟨hb, .inr ⟨HS.out, rfl⟩⟩)
        clear hc ht hb
        generalize min 65 (r.size + 1) = c at *
        go_wp2_with fail
        refine (right_any w2 A c l.length l HT.out rfl).mono ?_
        rintro e w3 ⟨rfl, rfl⟩
        rw [hnb]
        go_wp2
        refine bodyPost_ret (v := .tuple #[.slice none 0 0, .int .i64 3]) ?_ rfl HX.out
        simp [results, Tryd.results23, go_sem]
end Pat
end Go.Proofs.YtkhkcfbacnkcnaaDoor
/- The document's Encode. -/
namespace Go.Proofs.YtkhkcfbacnkcnaaDoor
open Go.RowKit Go.MapKept
namespace Ent

theorem tx_append (S T : ByteArray) : Crc.tx (S ++ T) = Crc.tx S ++ Crc.tx T := by
  unfold Crc.tx
  rw [ByteArray.data_append, Array.toList_append, List.map_append]
theorem tx_inj {S T : ByteArray} (h : Crc.tx S = Crc.tx T) : S = T := by rw [← str_tx S, ← str_tx T, h]

theorem bts_one (w : World) (x : Nat) (hx : x < 256) : Crc.Bts (w.alloc (.cells #[.int .u8 (x : Int)] 5)) (some ⟨w.heap.size, 0, none⟩) [x] :=
  ⟨fun y hy => by
    obtain rfl : y = x := by simpa using hy
    exact hx, by simp, fun j hj => ⟨w.heap.size, 0, rfl, by simp, by
    have : j < 1 := hj
    match j, this with
    | 0, _ => exact Crc.alloc_cell _ _ _ _⟩⟩
theorem bts_four (w : World) (x y z u : Nat) (hx : x < 256) (hy : y < 256) (hz : z < 256) (hu : u < 256) : Crc.Bts (w.alloc (.cells #[.int .u8 (x : Int), .int .u8 (y : Int), .int .u8 (z : Int), .int .u8 (u : Int)] 5)) (some ⟨w.heap.size, 0, none⟩) [x, y, z, u] :=
  ⟨fun q hq => by
    simp only [List.mem_cons, List.not_mem_nil, or_false] at hq
    omega, by simp, fun j hj => ⟨w.heap.size, 0, rfl, by simp, by
    have : j < 4 := hj
    match j, this with
    | 0, _ => exact Crc.alloc_cell _ _ _ _
    | 1, _ => exact Crc.alloc_cell _ _ _ _
    | 2, _ => exact Crc.alloc_cell _ _ _ _
    | 3, _ => exact Crc.alloc_cell _ _ _ _⟩⟩
set_option maxRecDepth 100000 in
theorem conv_one (w : World) (x : Nat) (hx : x < 256) : (convert 23 9 (.slice (some ⟨w.heap.size, 0, none⟩) 1 1)).run Tryd.prog (w.alloc (.cells #[.int .u8 (x : Int)] 5)) = .ok (.string (Crc.str [x])) (w.alloc (.cells #[.int .u8 (x : Int)] 5)) := Crc.conv_str 1 (bts_one w x hx)
set_option maxRecDepth 100000 in
theorem conv_four (w : World) (x y z u : Nat) (hx : x < 256) (hy : y < 256) (hz : z < 256) (hu : u < 256) : (convert 23 9 (.slice (some ⟨w.heap.size, 0, none⟩) 4 4)).run Tryd.prog (w.alloc (.cells #[.int .u8 (x : Int), .int .u8 (y : Int), .int .u8 (z : Int), .int .u8 (u : Int)] 5)) = .ok (.string (Crc.str [x, y, z, u])) (w.alloc (.cells #[.int .u8 (x : Int), .int .u8 (y : Int), .int .u8 (z : Int), .int .u8 (u : Int)] 5)) := Crc.conv_str 4 (bts_four w x y z u hx hy hz hu)

theorem byt_zero : Crc.Byt [0] := by
  unfold Crc.Byt
  decide

end Ent
end Go.Proofs.YtkhkcfbacnkcnaaDoor
/- The document's Decode. -/
namespace Go.Proofs.YtkhkcfbacnkcnaaDoor
open Go.RowKit Go.MapKept
namespace Ent

/-- is there one? -/
def iv : Option (List Nat × Nat) → Bool
  | some _ => true
  | none => false

theorem tx_extract (s : ByteArray) (a b : Nat) : Crc.tx (s.extract a b) = ((Crc.tx s).drop a).take (b - a) := by
  unfold Crc.tx
  rw [ByteArray.data_extract, Array.toList_extract, List.extract_eq_take_drop, List.map_take, List.map_drop]
theorem tx_at {s : ByteArray} {i : Nat} (h : i < s.size) : at' (Crc.tx s) i = (s[i]'h).toNat := Crc.tx_get h

end Ent
end Go.Proofs.YtkhkcfbacnkcnaaDoor
/- The chapter's example; entries as they lie; whether they are few. -/
namespace Go.Proofs.YtkhkcfbacnkcnaaDoor
open Go.RowKit Go.MapKept
namespace Ent

theorem may_ex : may (Crc.tx ⟨#[97, 98]⟩) ((258 : Nat) : Int) = true := by decide +kernel
theorem seven_ex : (enc (Crc.tx ⟨#[97, 98]⟩) 258).take 7 = [2, 1, 2, 0, 97, 98, 0] := by decide +kernel
theorem str_ex : (Crc.str [2, 1, 2, 0, 97, 98, 0]) = ⟨#[2, 1, 2, 0, 97, 98, 0]⟩ := rfl

theorem row_part {W : World} {g : Nat} {l : List Nat} (h : Row W g (at' l)) (hl : l.length = 64) (hb : Crc.Byt l) (n : Nat) : Crc.Bts W (some ⟨g, 0, none⟩) (l.take n) :=
  h.bts 0 (l.take n) (hb.take n) (by rw [List.length_take]; omega) (fun j hj => by
    rw [List.length_take] at hj
    rw [Nat.zero_add, List.getElem_take]
    unfold at'
    rw [List.getElem?_eq_getElem (by omega)]
    rfl)

set_option maxHeartbeats 1000000 in
theorem lives_any (w : World) : Calls Tryd.prog 24 #[] w fun r w' => r = .returned (.bool true) ∧ Below w.heap.size w w' := by
  have HE := Lib.hid (encode_yes w ⟨#[97, 98]⟩ 258 may_ex)
  have HC := Lib.hid Crc.lives_any
  have H48 := Lib.hid (may_len may_ex)
  rw [show ((258 : Nat) : Int) = 258 from rfl] at HE
  go_enter Tryd.func24, Tryd.ntmps24
  go_wp2_with fail
  refine HE.out.mono ?_
  rintro e w1 ⟨g, hg, rfl, hr, hb⟩
  have HR := Lib.hid hr
  have HB := Lib.hid hb
  clear hr hb hg
  go_wp2_with fail
  refine (HC.out _).mono ?_
  rintro e w2 ⟨rfl, hb2⟩
  have HB2 := Lib.hid (HB.out.trans (hb2.mono HB.out.size))
  have hcv := Crc.conv_str 64 (row_part (HR.out.keep hb2) (enc_len H48.out 258) (enc_byt (Crc.tx_byt _) H48.out 258) 7)
  rw [seven_ex, str_ex] at hcv
  rw [show ([2, 1, 2, 0, 97, 98, 0] : List Nat).length = 7 from rfl] at hcv
  clear hb2 HB HR HE
  go_wp2
  go_ret
  exact ⟨rfl, HB2.out⟩

/-- an entry's name and number -/
abbrev En := ByteArray × Int

/-- these entries lie at A -/
structure Es (w : World) (A : Option Addr) (l : List En) : Prop where
  size : ∀ e ∈ l, e.1.size ≤ 9223372036854775807
  len : l.length ≤ 9223372036854775807
  at' : ∀ j (h : j < l.length), ∃ b o, A = some ⟨b, o, none⟩ ∧ b < w.heap.size ∧ w.cell? ⟨b, o + j * 2, none⟩ = some (.string l[j].1) ∧ w.cell? ⟨b, o + j * 2 + 1, none⟩ = some (.int .i64 l[j].2)
theorem Es.keep {w w' : World} {A : Option Addr} {l : List En} (h : Es w A l) (hb : Below w.heap.size w w') : Es w' A l :=
  ⟨h.size, h.len, fun j hj => by
    obtain ⟨b, o, e, hlt, hc, hd⟩ := h.at' j hj
    exact ⟨b, o, e, Nat.lt_of_lt_of_le hlt hb.size, (hb.cell (p := ⟨b, o + j * 2, none⟩) hlt).trans hc, (hb.cell (p := ⟨b, o + j * 2 + 1, none⟩) hlt).trans hd⟩⟩
theorem Es.drew {w : World} {A : Option Addr} {l : List En} (h : Es w A l) : Es w.drew A l := h.keep (Below.refl _ _).drew
theorem es_one (w : World) (s : ByteArray) (i : Int) (t : TypeId) (hs : s.size ≤ 9223372036854775807) : Es (w.alloc (.cells #[.string s, .int .i64 i] t)) (some ⟨w.heap.size, 0, none⟩) [(s, i)] :=
  ⟨fun e he => by
    obtain rfl : e = (s, i) := by simpa using he
    exact hs, by simp, fun j hj => by
    have : j < 1 := hj
    match j, this with
    | 0, _ => exact ⟨w.heap.size, 0, rfl, by simp, Crc.alloc_cell _ _ _ _, Crc.alloc_cell _ _ _ _⟩⟩

/-- few, and short -/
def Few (l : List En) : Prop := (∀ e ∈ l, e.1.size ≤ 100) ∧ l.length ≤ 40
instance (l : List En) : Decidable (Few l) := by unfold Few; infer_instance
def few (l : List En) : Bool := decide (Few l)

end Ent
end Go.Proofs.YtkhkcfbacnkcnaaDoor
/- The chapter's example. -/
namespace Go.Proofs.YtkhkcfbacnkcnaaDoor
open Go.RowKit Go.MapKept Go.Shelf
namespace Pat

theorem ex_yes : spl ⟨#[47, 97, 47, 98]⟩ = some [⟨#[97]⟩, ⟨#[98]⟩] := by decide +kernel
theorem ex_no : spl ⟨#[47, 97, 47]⟩ = none := by decide +kernel
theorem split_yes (w : World) : Calls Tryd.prog 23 #[.string ⟨#[47, 97, 47, 98]⟩] w fun e w' => ∃ A c, e = .returned (.tuple #[.slice A 2 c, .int .i64 0]) ∧ Txs w' A [⟨#[97]⟩, ⟨#[98]⟩] ∧ Below w.heap.size w w' :=
  (split_any w _ (by decide)).mono fun e w' ⟨hb, h⟩ => by
    rcases h with ⟨l, A, c, hs, he, _, ht⟩ | ⟨hs, _⟩
    · rw [ex_yes] at hs
      injection hs with hs
      subst hs
      exact ⟨A, c, he, ht, hb⟩
    · rw [ex_yes] at hs
      cases hs
theorem split_no (w : World) : Calls Tryd.prog 23 #[.string ⟨#[47, 97, 47]⟩] w fun e w' => e = .returned (.tuple #[.slice none 0 0, .int .i64 3]) ∧ Below w.heap.size w w' :=
  (split_any w _ (by decide)).mono fun e w' ⟨hb, h⟩ => by
    rcases h with ⟨l, A, c, hs, _⟩ | ⟨_, he⟩
    · rw [ex_no] at hs
      cases hs
    · exact ⟨he, hb⟩

set_option maxRecDepth 100000 in
set_option maxHeartbeats 1000000 in
theorem lives_any (w : World) : Calls Tryd.prog 16 #[] w fun e w' => e = .returned (.bool true) ∧ Below w.heap.size w w' := by
  have H1 := Lib.hid split_yes
  have H2 := Lib.hid split_no
  have H3 := Lib.hid Ent.lives_any
  go_enter Tryd.func16, Tryd.ntmps16
  go_wp2_with fail
  refine (H1.out _).mono ?_
  rintro e w1 ⟨A, c, rfl, ht, hb⟩
  have HT := Lib.hid ht
  have HB := Lib.hid hb
  clear ht hb
  go_wp2_with fail
  refine (H2.out _).mono ?_
  rintro e w2 ⟨rfl, hb2⟩
  have HT2 := Lib.hid (HT.out.keep hb2)
  have HB2 := Lib.hid (HB.out.trans (hb2.mono HB.out.size))
  clear hb2
  go_wp2_with fail
  refine (H3.out _).mono ?_
  rintro e w3 ⟨rfl, hb3⟩
  have hb3' := HB2.out.trans (hb3.mono HB2.out.size)
  have HB3 := Lib.hid hb3'
  obtain ⟨b, o, rfl, _, hc0⟩ := (HT2.out.keep hb3).at' 0 (by decide)
  obtain ⟨b', o', e, _, hc1⟩ := (HT2.out.keep hb3).at' 1 (by decide)
  injection e with e
  injection e with e1 e2
  subst e1 e2
  simp only [List.getElem_cons_zero, List.getElem_cons_succ, Nat.add_zero] at hc0 hc1
  clear hb3 hb3'
  go_wp2
  go_ret
  exact ⟨rfl, HB3.out⟩
end Pat
end Go.Proofs.YtkhkcfbacnkcnaaDoor
/- A path's parent: a row of the call's own. -/
namespace Go.Proofs.YtkhkcfbacnkcnaaDoor
open Go.RowKit Go.MapKept Go.Lib
namespace Pat

/-- a row of names of the call's own, in block g -/
def Own (w : World) (g : Nat) (l : List ByteArray) : Prop := w.rowIs g 9 l.length (fun i => .string (l.getD i ByteArray.empty))
theorem Own.txs {w : World} {g : Nat} {l : List ByteArray} (h : Own w g l) (hs : ∀ s ∈ l, s.size ≤ 9223372036854775807) (hl : l.length ≤ 9223372036854775807) : Txs w (some ⟨g, 0, none⟩) l :=
  ⟨hs, hl, fun j hj => ⟨g, 0, rfl, World.rowIs.lt h, by
    rw [Nat.zero_add, World.rowIs.cell h hj, List.getD_eq_getElem?_getD, List.getElem?_eq_getElem hj, Option.getD_some]⟩⟩
theorem Own.keep {w w' : World} {g N : Nat} {l : List ByteArray} (h : Own w g l) (hb : Below N w w') (hg : g < N) : Own w' g l := World.rowIs.of_block h (hb.block g hg)
theorem Own.set {w : World} {g : Nat} {l : List ByteArray} (h : Own w g l) (k : Nat) (s : ByteArray) : Own (w.setCell ⟨g, k, none⟩ (.string s)) g (l.set k s) := by
  have h1 := World.rowIs.set h k (.string s)
  unfold Own
  rw [List.length_set]
  refine h1.congr (fun j hj => ?_)
  by_cases e : j = k
  · subst e
    rw [if_pos rfl, List.getD_eq_getElem?_getD, List.getElem?_set_self hj, Option.getD_some]
  · rw [if_neg e, List.getD_eq_getElem?_getD, List.getD_eq_getElem?_getD, List.getElem?_set_ne (fun h => e h.symm)]

theorem kid_at {m : List ByteArray} {s : ByteArray} : (m ++ [s])[m.length]'(by simp) = s := by simp

set_option maxRecDepth 100000 in
set_option maxHeartbeats 1000000 in
theorem parent_yes (w : World) (A : Option Addr) (c n k : Nat) (m : List ByteArray) (s : ByteArray) (h : Txs w A (m ++ [s])) (hk : m.length = k) (hn : n = k + 1) (hm : k ≤ 1000000) :
    Calls Tryd.prog 39 #[.slice A n c] w fun e w' => ∃ g, e = .returned (.tuple #[.slice (some ⟨g, 0, none⟩) k k, .string s, .bool true]) ∧ w.heap.size ≤ g ∧ Own w' g m ∧ Below w.heap.size w w' := by
  subst hk
  have hmk := run_make_row' (P := Tryd.prog) 24 9 _ 16 Tryd.underlying24 str_info rfl .i64 .i64 m.length (by omega) (by omega) w
  have hr1 := World.rowIs_made w (.string ByteArray.empty) m.length 9
  have hb1 := (Below.refl w.heap.size w).alloc (Nat.le_refl _) (.cells (madeCells #[.string ByteArray.empty] m.length) 9)
  obtain ⟨b, o, hA, hlt, hc⟩ := h.at' m.length (by simp)
  rw [kid_at] at hc
  subst hA
  have hcp := run_copy_cells (P := Tryd.prog) (w.alloc (.cells (madeCells #[.string ByteArray.empty] m.length) 9)) 24 24 3 9 w.heap.size 0 m.length m.length ⟨b, o, none⟩ n c (strs m)
    Tryd.underlying24 (by kernel_rfl) (by rw [hn]; simp [strs])
    (fun j v hj => by
      have hjl : j < m.length := by
        have := (List.getElem?_eq_some_iff.1 hj).1
        simpa [strs] using this
      obtain ⟨b', o', e, hlt', hc'⟩ := (h.alloc (.cells (madeCells #[.string ByteArray.empty] m.length) 9)).at' j (by simp; omega)
      injection e with e
      injection e with e1 e2
      subst e1 e2
      rw [Go.WideShapes.add_plain, hc', ← hj]
      simp [strs, List.getElem_append_left hjl, List.getElem?_eq_getElem hjl])
    (fun j hj => by
      have hjl : j < m.length := by simpa [strs] using hj
      rw [Nat.zero_add, hr1.cell hjl]; rfl)
    (fun j hj => hr1.frozen _) (strs_one m)
  have hr2 : Own ((w.alloc (.cells (madeCells #[.string ByteArray.empty] m.length) 9)).setCells w.heap.size 0 (strs m)) w.heap.size m :=
    (rowIs_setCells (strs m) 0 (w.alloc (.cells (madeCells #[.string ByteArray.empty] m.length) 9)) _ hr1).congr (fun j hj => by
      rw [if_pos ⟨Nat.zero_le _, by simpa [strs] using hj⟩]
      simp [strs, List.getElem?_eq_getElem hj])
  have hb2 := below_setCells (b := w.heap.size) (Nat.le_refl _) (strs m) 0 _ hb1
  have hcw := (hb2.cell (p := ⟨b, o + m.length, none⟩) hlt).trans hc
  have hlen : (strs m).length = m.length := by simp [strs]
  rw [hlen] at hcp
  have HO := Lib.hid hr2
  have HB := Lib.hid hb2
  have hsub : (n : Int) - 1 = (m.length : Int) := by omega
  have hn0 : ((n : Int) == 0) = false := beq_eq_false_iff_ne.2 (by omega)
  have hn1 : ¬ (n : Int) = 0 := by omega
  have hi0 : (0 : Int) ≤ (m.length : Int) := by omega
  have hi1 : (m.length : Int) < (n : Int) := by omega
  clear h hr1 hr2 hb1 hb2 hn hlen hc
  generalize w.heap.size = g at *
  generalize w.alloc (.cells (madeCells #[.string ByteArray.empty] m.length) 9) = w1 at *
  generalize w1.setCells g 0 (strs m) = w2 at *
  go_enter Tryd.func39, Tryd.ntmps39
  go_wp2
  go_quiet (fail)
  go_wp2
  refine bodyPost_ret (v := .tuple #[.slice (some ⟨g, 0, none⟩) m.length m.length, .string s, .bool true]) ?_ rfl ⟨g, rfl, Nat.le_refl _, HO.out, below_drewN HB.out _⟩
  simp [results, Tryd.results39, go_sem]

set_option maxHeartbeats 1000000 in
theorem parent_no (w : World) (A : Option Addr) (c : Nat) :
    Calls Tryd.prog 39 #[.slice A 0 c] w fun e w' => e = .returned (.tuple #[.slice none 0 0, .string ByteArray.empty, .bool false]) ∧ w' = w := by
  go_enter Tryd.func39, Tryd.ntmps39
  go_wp2
  refine bodyPost_ret (v := .tuple #[.slice none 0 0, .string ByteArray.empty, .bool false]) ?_ rfl ⟨rfl, rfl⟩
  simp [results, Tryd.results39, go_sem]
  rfl
end Pat
end Go.Proofs.YtkhkcfbacnkcnaaDoor
/- The law of a path's parent. -/
namespace Go.Proofs.YtkhkcfbacnkcnaaDoor
open Go.RowKit Go.MapKept Go.Shelf
namespace Pat

theorem Txs.left {w : World} {A : Option Addr} {m r : List ByteArray} (h : Txs w A (m ++ r)) : Txs w A m := by
  have := h.take m.length
  rwa [List.take_left] at this

theorem mark_ok (w : World) (g k : Nat) (l : List ByteArray) (h : Own w g l) (hk : k < l.length) : (∃ u, w.cell? ⟨g, k, none⟩ = some (.string u)) ∧ w.frozen? ⟨g, k, none⟩ = false :=
  ⟨⟨_, World.rowIs.cell h hk⟩, World.rowIs.frozen h k⟩

theorem same_self (w : World) (A B : Option Addr) (c d k : Nat) (x : List ByteArray) (hk : x.length = k) (hx : Txs w A x) (hy : Txs w B x) :
    Calls Tryd.prog 6 #[.slice A k c, .slice B k d] w fun e w' => e = .returned (.bool true) ∧ ∃ n, w' = w.drewN n := by
  subst hk
  exact (same_any w A B c d x x hx hy).mono fun e w' h => ⟨by rw [h.1, decide_eq_true rfl], h.2⟩

end Pat
end Go.Proofs.YtkhkcfbacnkcnaaDoor
/- A path with one name more: a copy and a name behind it. -/
namespace Go.Proofs.YtkhkcfbacnkcnaaDoor
open Go.RowKit Go.MapKept Go.Shelf
namespace Pat

theorem row_cap {W : World} {B n c : Nat} {e : TypeId} {s : Nat} {G : Option Addr} {xs : List Value} (h : W.ownsRow B e s (.slice G n c) n xs) : n ≤ c := by
  rcases h.2 with ⟨e, h0⟩ | ⟨g, cap, cur, e, _, _, hc, _⟩
  · omega
  · injection e with _ _ e
    omega
/-- a copy of names, a row of the call's own -/
theorem copy_row {W : World} {A : Option Addr} {l : List ByteArray} (c : Nat) (h : Txs W A l) (hA : A = none → c = 0) (hl : l.length ≤ 1000000) :
    ∃ (G : Option Addr) (gc : Nat) (w' : World), (Builtin.append_ #[24, 24] 24 #[.slice (some ⟨W.heap.size, 0, none⟩) 0 0, .slice A l.length c]).run Tryd.prog (W.alloc (.cells #[] 9)) = .ok (.slice G l.length gc) w' ∧ w'.ownsRow W.heap.size 9 1 (.slice G l.length gc) l.length (strs l) ∧ Below W.heap.size W w' := by
  obtain ⟨i0, hi0, hz0, hz1, hz2⟩ := info_parts str_info
  have hown : (W.alloc (.cells #[] 9)).ownsRow W.heap.size 9 1 (.slice (some ⟨W.heap.size, 0, none⟩) 0 0) 0 [] := World.ownsRow_made W #[] 0 (Nat.le_refl _) (by unfold maxLen; omega) rfl
  have hb := (Below.refl W.heap.size W).alloc (Nat.le_refl _) (.cells #[] 9)
  cases A with
  | none =>
    have hl0 : l = [] := by
      cases l with
      | nil => rfl
      | cons b l =>
        obtain ⟨_, _, e, _⟩ := h.at' 0 (by simp)
        cases e
    subst hl0
    rw [hA rfl]
    exact ⟨_, _, _, run_append_owned_none (P := Tryd.prog) _ W.heap.size 24 24 9 i0 1 Tryd.underlying24 hi0 _ 0 [] hown, hown, hb⟩
  | some ad =>
    obtain ⟨v', w', hr, h2, h3, _, _⟩ := run_append_own_at (P := Tryd.prog) (W.alloc (.cells #[] 9)) W.heap.size 24 24 9 i0 (.string ByteArray.empty) 1 16 Tryd.underlying24 hi0 hz0 hz1 hz2 rfl (by decide) _ 0 [] hown ad l.length c (strs l) (by simp [strs]) (txs_news (h.alloc _)) (strs_one l) (by unfold maxLen; omega) (by omega) (by simp)
    rw [Nat.zero_add, List.nil_append] at h2
    obtain ⟨G, gc, rfl⟩ := row_slice h2
    exact ⟨G, gc, w', hr, h2, hb.grown h3 (by simp) (fun k hk => row_base_lt hown hk)⟩

/-- an append whose run is known -/
theorem wpList_append_run {P : Program} {w w' : World} {ops : Array Oper} {rest : List Oper} {o : Oper} {a : Act} {Q : Exit → Act → World → Prop} (hgd : o.guard = none) (s x : Operand) (t : TypeId)
    (ho : o.op = .call { callee := .builtin .append, args := #[s, x], argTypes := #[t, t] }) (v u v' : Value) (hs : a.eval s = v) (hx : a.eval x = u) (hr : (Builtin.append_ #[t, t] o.type #[v, u]).run P w = .ok v' w')
    (h : wpList P ops Q rest (a.put o.dst v') w') : wpList P ops Q (o :: rest) a w := by
  refine wpList_plain hgd fun K hK => ?_
  unfold Oper.wp execOp
  simp only [ho, resolve, invoke, builtin, Sem.run_bind, Sem.run_pure, Result.andThen_ok, List.map_toArray, List.map_cons, List.map_nil, hs, hx, hr]
  exact hK _ _ h

theorem one_new (w : World) (s : ByteArray) (t : TypeId) : ∀ j u, [Value.string s][j]? = some u → (w.alloc (.cells #[.string s] t)).cell? ((⟨w.heap.size, 0, none⟩ : Addr).add j) = some u := by
  intro j u hj
  match j, hj with
  | 0, hj =>
    simp at hj
    subst hj
    simp [Addr.add]

/-- a path, one with one name more, and another one -/
structure Tri (w : World) (A G O : Option Addr) (l kid other : List ByteArray) : Prop where
  l : Txs w A l
  k : Txs w G kid
  o : Txs w O other
theorem Tri.keep {w w' : World} {A G O : Option Addr} {l kid other : List ByteArray} (h : Tri w A G O l kid other) (hb : Below w.heap.size w w') : Tri w' A G O l kid other :=
  ⟨h.l.keep hb, h.k.keep hb, h.o.keep hb⟩
theorem Tri.drewN {w : World} {A G O : Option Addr} {l kid other : List ByteArray} (h : Tri w A G O l kid other) (n : Nat) : Tri (w.drewN n) A G O l kid other :=
  ⟨h.l.drewN n, h.k.drewN n, h.o.drewN n⟩
theorem same_at (w : World) (A B : Option Addr) (c d n m : Nat) (x y : List ByteArray) (hn : x.length = n) (hm : y.length = m) (hx : Txs w A x) (hy : Txs w B y) :
    Calls Tryd.prog 6 #[.slice A n c, .slice B m d] w fun e w' => e = .returned (.bool (decide (x = y))) ∧ ∃ n, w' = w.drewN n := by
  subst hn hm
  exact same_any w A B c d x y hx hy
/-- what whether it is within tells -/
theorem kids_past {l other : List ByteArray} (n : ByteArray) (h : other.take l.length ≠ l) : bef l other = false ∨ (bef l other = true ∧ bef (l ++ [n]) other = true) := by
  by_cases hp : bef l other = true
  · exact .inr ⟨hp, bef_past l other n hp h⟩
  · exact .inl (Bool.eq_false_iff.2 hp)
end Pat
end Go.Proofs.YtkhkcfbacnkcnaaDoor
/- The document's things as they lie in memory; where one stands. -/
namespace Go.Proofs.YtkhkcfbacnkcnaaDoor
open Go.RowKit Go.MapKept
namespace Tre
open Pat (Txs)

/-- a thing with where its names lie -/
abbrev Tg := Option Addr × Nat × Th
abbrev ths (l : List Tg) : List Th := l.map (·.2.2)
/-- a thing's three cells -/
abbrev tc (g : Tg) : List Value := [.slice g.1 g.2.2.1.length g.2.1, .bool g.2.2.2.1, .string g.2.2.2.2]
def tcells (l : List Tg) : List Value := l.flatMap tc
theorem tcells_len (l : List Tg) : (tcells l).length = l.length * 3 := by
  induction l with
  | nil => rfl
  | cons f l ih => simp only [tcells, List.flatMap_cons, List.length_append, List.length_cons, List.length_nil] at *; omega
theorem tcells_append (l m : List Tg) : tcells (l ++ m) = tcells l ++ tcells m := by
  unfold tcells
  rw [List.flatMap_append]
theorem tcells_one (l : List Tg) : ∀ u ∈ tcells l, u.oneCell' = true := by
  intro u hu
  obtain ⟨g, _, h⟩ := List.mem_flatMap.1 hu
  simp only [List.mem_cons, List.not_mem_nil, or_false] at h
  rcases h with rfl | rfl | rfl <;> rfl
theorem tcells_get {l : List Tg} : ∀ {j : Nat} (h : j < l.length), (tcells l)[j * 3]? = some (.slice l[j].1 l[j].2.2.1.length l[j].2.1) ∧ (tcells l)[j * 3 + 1]? = some (.bool l[j].2.2.2.1) ∧ (tcells l)[j * 3 + 2]? = some (.string l[j].2.2.2.2) := by
  induction l with
  | nil => intro j h; simp at h
  | cons f l ih =>
    intro j h
    cases j with
    | zero => exact ⟨rfl, rfl, rfl⟩
    | succ j =>
      have := ih (j := j) (by simpa using h)
      have e : (j + 1) * 3 = j * 3 + 1 + 1 + 1 := by omega
      rw [e]
      simpa [tcells] using this

/-- things as they lie -/
structure Ths (w : World) (A : Option Addr) (l : List Tg) : Prop where
  len : l.length ≤ 1000000
  nm : ∀ g ∈ l, Txs w g.1 g.2.2.1 ∧ g.2.2.1.length ≤ g.2.1
  sz : ∀ g ∈ l, g.2.2.2.2.size ≤ 9223372036854775807
  at' : ∀ j (h : j < l.length), ∃ b o, A = some ⟨b, o, none⟩ ∧ b < w.heap.size ∧ w.cell? ⟨b, o + j * 3, none⟩ = some (.slice l[j].1 l[j].2.2.1.length l[j].2.1) ∧ w.cell? ⟨b, o + j * 3 + 1, none⟩ = some (.bool l[j].2.2.2.1) ∧ w.cell? ⟨b, o + j * 3 + 2, none⟩ = some (.string l[j].2.2.2.2)
theorem Ths.keep {w w' : World} {A : Option Addr} {l : List Tg} (h : Ths w A l) (hb : Below w.heap.size w w') : Ths w' A l :=
  ⟨h.len, fun g hg => ⟨(h.nm g hg).1.keep hb, (h.nm g hg).2⟩, h.sz, fun j hj => by
    obtain ⟨b, o, e, hlt, h0, h1, h2⟩ := h.at' j hj
    exact ⟨b, o, e, Nat.lt_of_lt_of_le hlt hb.size, (hb.cell (p := ⟨b, o + j * 3, none⟩) hlt).trans h0, (hb.cell (p := ⟨b, o + j * 3 + 1, none⟩) hlt).trans h1, (hb.cell (p := ⟨b, o + j * 3 + 2, none⟩) hlt).trans h2⟩⟩
theorem Ths.drew {w : World} {A : Option Addr} {l : List Tg} (h : Ths w A l) : Ths w.drew A l := h.keep (Below.refl _ _).drew
theorem Ths.alloc {w : World} {A : Option Addr} {l : List Tg} (h : Ths w A l) (o : Obj) : Ths (w.alloc o) A l := h.keep ((Below.refl _ _).alloc (Nat.le_refl _) o)
theorem ths_nil (w : World) (A : Option Addr) : Ths w A [] := ⟨by simp, fun _ h => by simp at h, fun _ h => by simp at h, fun j h => by simp at h⟩
/-- a row of things of the call's own -/
theorem own_ths {W : World} {B n c : Nat} {t : TypeId} {G : Option Addr} {l : List Tg} (h : W.ownsRow B t 3 (.slice G n c) n (tcells l)) (hl : n ≤ 1000000) (hn : ∀ g ∈ l, Txs W g.1 g.2.2.1 ∧ g.2.2.1.length ≤ g.2.1) (hs : ∀ g ∈ l, g.2.2.2.2.size ≤ 9223372036854775807) : Ths W G l ∧ l.length = n := by
  have hln : l.length = n := by
    have := h.1
    rw [tcells_len] at this
    omega
  refine ⟨⟨by omega, hn, hs, fun j hj => ?_⟩, hln⟩
  obtain ⟨f0, f1, f2⟩ := tcells_get hj
  rcases h.2 with ⟨e, h0⟩ | ⟨g, cap, cur, e, hB, hh, _, _, _, ht⟩
  · omega
  · injection e with e
    subst e
    have key : ∀ i, i < n * 3 → W.cell? ⟨g, 0 + i, none⟩ = (tcells l)[i]? := fun i hi => by
      have := congrArg (·[i]?) ht
      rw [List.getElem?_take, if_pos hi] at this
      unfold World.cell?
      rw [hh, Nat.zero_add]
      simp only
      rw [← Array.getElem?_toList]
      exact this
    exact ⟨g, 0, rfl, (Array.getElem?_eq_some_iff.1 hh).1, (key _ (by omega)).trans f0, (key (j * 3 + 1) (by omega)).trans f1, (key (j * 3 + 2) (by omega)).trans f2⟩
theorem ths_news {W : World} {ad : Addr} {l : List Tg} (h : Ths W (some ad) l) : ∀ j u, (tcells l)[j]? = some u → W.cell? (ad.add j) = some u := by
  intro j u hu
  have hj : j < l.length * 3 := by
    have := (List.getElem?_eq_some_iff.1 hu).1
    rwa [tcells_len] at this
  have hj3 : j / 3 < l.length := by omega
  obtain ⟨b, o, e, _, h0, h1, h2⟩ := h.at' (j / 3) hj3
  obtain ⟨f0, f1, f2⟩ := tcells_get hj3
  injection e with e
  subst e
  rw [Go.WideShapes.add_plain]
  have hm : j % 3 = 0 ∨ j % 3 = 1 ∨ j % 3 = 2 := by omega
  rcases hm with hm | hm | hm
  · have e : j = j / 3 * 3 := by omega
    rw [← e] at h0 f0
    rw [h0, ← hu, f0]
  · have e : j = j / 3 * 3 + 1 := by omega
    rw [Nat.add_assoc, ← e] at h1
    rw [← e] at f1
    rw [h1, ← hu, f1]
  · have e : j = j / 3 * 3 + 2 := by omega
    rw [Nat.add_assoc, ← e] at h2
    rw [← e] at f2
    rw [h2, ← hu, f2]

/-- names stay where a cell elsewhere is stored -/
theorem txs_set {w : World} {A : Option Addr} {n : Nm} {b : Nat} (h : Txs w A n) (hne : ∀ a, A = some a → b < a.block) (o : Nat) (v : Value) : Txs (w.setCell ⟨b, o, none⟩ v) A n :=
  ⟨h.size, h.len, fun j hj => by
    obtain ⟨b', o', e, hlt, hc⟩ := h.at' j hj
    have hbb : b < b' := hne _ e
    refine ⟨b', o', e, by simpa [World.setCell] using hlt, ?_⟩
    rw [World.cell?_setCell_other _ _ _ _ (fun e => by injection e with e; omega)]
    exact hc⟩
/-- a row of the call's own stays where a cell elsewhere is stored -/
theorem own_set {w : World} {B b n s : Nat} {t : TypeId} {v : Value} {xs : List Value} (h : w.ownsRow B t s v n xs) (hb : b < B) (o : Nat) (u : Value) : (w.setCell ⟨b, o, none⟩ u).ownsRow B t s v n xs := by
  rcases h with ⟨h1, h2⟩
  refine ⟨h1, ?_⟩
  rcases h2 with h0 | ⟨g, cap, cur, e, hB, hh, hr⟩
  · exact .inl h0
  · exact .inr ⟨g, cap, cur, e, hB, (Deep.blk_setCell_other w ⟨b, o, none⟩ u g (by simp only; omega)).trans hh, hr⟩

/-- block b is none of theirs -/
def Apart (b : Nat) (A : Option Addr) (l : List Tg) : Prop := (∀ a, A = some a → l ≠ [] → a.block ≠ b) ∧ ∀ g ∈ l, ∀ a, g.1 = some a → g.2.2.1 ≠ [] → a.block ≠ b
theorem Ths.apart {w : World} {A : Option Addr} {l : List Tg} (h : Ths w A l) {b : Nat} (hb : w.heap.size ≤ b) : Apart b A l := by
  refine ⟨fun a e hl => ?_, fun g hg a e hn => ?_⟩
  · obtain ⟨b', o', e', hlt, _⟩ := h.at' 0 (List.length_pos_iff.2 hl)
    rw [e] at e'
    injection e' with e'
    subst e'
    simp only
    omega
  · obtain ⟨b', o', e', hlt, _⟩ := (h.nm g hg).1.at' 0 (List.length_pos_iff.2 hn)
    rw [e] at e'
    injection e' with e'
    subst e'
    simp only
    omega
theorem ths_set {w : World} {A : Option Addr} {l : List Tg} {b : Nat} (h : Ths w A l) (ha : Apart b A l) (o : Nat) (u : Value) : Ths (w.setCell ⟨b, o, none⟩ u) A l :=
  ⟨h.len, fun g hg => ⟨⟨(h.nm g hg).1.size, (h.nm g hg).1.len, fun j hj => by
    obtain ⟨b', o', e, hlt, hc⟩ := (h.nm g hg).1.at' j hj
    have hne : b' ≠ b := ha.2 g hg _ e (fun h0 => by rw [h0] at hj; simp at hj)
    refine ⟨b', o', e, by simpa [World.setCell] using hlt, ?_⟩
    rw [World.cell?_setCell_other _ _ _ _ (fun e => by injection e with e; omega)]
    exact hc⟩, (h.nm g hg).2⟩, h.sz, fun j hj => by
    obtain ⟨b', o', e, hlt, h0, h1, h2⟩ := h.at' j hj
    have hne : b' ≠ b := ha.1 _ e (fun h0 => by rw [h0] at hj; simp at hj)
    refine ⟨b', o', e, by simpa [World.setCell] using hlt, ?_, ?_, ?_⟩
    all_goals rw [World.cell?_setCell_other _ _ _ _ (fun e => by injection e with e; omega)]
    · exact h0
    · exact h1
    · exact h2⟩

/-- a tree's value -/
abbrev tv (A : Option Addr) (n c : Nat) : Value := .agg #[.slice A n c]

theorem ths_get {l : List Tg} {j : Nat} (h : j < l.length) : (ths l)[j]'(by simpa using h) = l[j].2.2 := by simp

end Tre
end Go.Proofs.YtkhkcfbacnkcnaaDoor
/- The program's Join and the document's. -/
namespace Go.Proofs.YtkhkcfbacnkcnaaDoor
open Go.RowKit Go.MapKept Go.Shelf
namespace Pat

theorem lens_le {l : List ByteArray} (h : IsNames l) : (Lib.join (l.map (·.data.toList)) [47]).length ≤ 10000 := by
  cases l with
  | nil => simp [Lib.join_nil]
  | cons x r =>
    rw [List.map_cons, Lib.join_length]
    have key : ∀ (m : List ByteArray), (∀ n ∈ m, Ent.Right (Crc.tx n)) → Lib.lens (m.map (·.data.toList)) ≤ 48 * m.length := by
      intro m
      induction m with
      | nil => intro _; simp [Lib.lens]
      | cons y m ih =>
        intro hm
        have h1 := (hm y (by simp)).1.2
        have h2 := ih (fun n hn => hm n (by simp [hn]))
        unfold Crc.tx at h1
        rw [List.length_map] at h1
        simp only [Lib.lens, List.map_cons, List.sum_cons, List.length_cons] at h2 ⊢
        omega
    have h1 := key (x :: r) h.2
    rw [List.map_cons] at h1
    have h2 := h.1
    simp only [List.length_cons, List.length_map, List.length_nil] at h1 h2 ⊢
    omega

/-- what Join answers -/
def jn (l : List ByteArray) : Value := if IsNames l then .tuple #[.string (pth l), .int .i64 0] else .tuple #[.string ByteArray.empty, .int .i64 3]
theorem pth_front (l : List ByteArray) : (⟨#[47]⟩ : ByteArray) ++ mk (Lib.join (l.map (·.data.toList)) [47]) = pth l := by
  rw [pth_join]
  apply ByteArray.ext
  rw [ByteArray.data_append]
  simp

end Pat
end Go.Proofs.YtkhkcfbacnkcnaaDoor
/- The document's Split, byte by byte. -/
namespace Go.Proofs.YtkhkcfbacnkcnaaDoor
open Go.RowKit Go.MapKept Go.Shelf
namespace Pat

/-- behind k bytes: m are done, t is begun -/
def Mid (s : ByteArray) (k : Nat) (m : List ByteArray) (t : ByteArray) : Prop :=
  k ≤ s.size ∧ cut (s.extract 1 s.size).data.toList = m.map (·.data.toList) ++ glue t.data.toList (cut (s.data.toList.drop k))
theorem drop_byte {s : ByteArray} {k : Nat} (h : k < s.size) : s.data.toList.drop k = s[k] :: s.data.toList.drop (k + 1) := by
  have h1 := Lib.data_getElem? s k h
  have h2 : k < s.data.toList.length := by rw [← Lib.size_eq]; exact h
  rw [List.drop_eq_getElem_cons h2]
  rw [List.getElem?_eq_getElem h2] at h1
  injection h1 with h1
  rw [h1]
theorem mid_start {s : ByteArray} (h : 0 < s.size) : Mid s 1 [] ByteArray.empty :=
  ⟨h, by rw [Lib.extract_to_end]; exact (glue_none (cut_ne _)).symm⟩
theorem mid_byte {s : ByteArray} {k : Nat} {m : List ByteArray} {t : ByteArray} (h : k < s.size) (hb : s[k] ≠ 47) (hm : Mid s k m t) : Mid s (k + 1) m (t ++ s.extract k (k + 1)) := by
  refine ⟨h, ?_⟩
  have e : (t ++ s.extract k (k + 1)).data.toList = t.data.toList ++ [s[k]] := by
    rw [ByteArray.data_append, Array.toList_append, Lib.extract_data]
    congr 1
    have := drop_byte h
    rw [this]
    simp
  rw [hm.2, drop_byte h, cut, if_neg hb, glue_glue, e]
theorem mid_piece {s : ByteArray} {k : Nat} {m : List ByteArray} {t : ByteArray} (h : k = s.size ∨ ∃ h : k < s.size, s[k] = 47) (hm : Mid s k m t) : ∃ r, cut (s.extract 1 s.size).data.toList = m.map (·.data.toList) ++ t.data.toList :: r := by
  rw [hm.2]
  rcases h with rfl | ⟨h, hb⟩
  · refine ⟨[], ?_⟩
    rw [List.drop_eq_nil_of_le (by rw [← Lib.size_eq]; exact Nat.le_refl _)]
    simp [cut, glue]
  · refine ⟨cut (s.data.toList.drop (k + 1)), ?_⟩
    rw [drop_byte h, cut, if_pos hb]
    simp [glue]
theorem mid_cut {s : ByteArray} {k : Nat} {m : List ByteArray} {t : ByteArray} (h : k < s.size) (hb : s[k] = 47) (hm : Mid s k m t) : Mid s (k + 1) (m ++ [t]) ByteArray.empty := by
  refine ⟨h, ?_⟩
  rw [hm.2, drop_byte h, cut, if_pos hb, show ByteArray.empty.data.toList = [] from rfl, glue_none (cut_ne _)]
  simp [glue]
theorem mid_end {s : ByteArray} {m : List ByteArray} {t : ByteArray} (hm : Mid s s.size m t) : cut (s.extract 1 s.size).data.toList = (m ++ [t]).map (·.data.toList) := by
  rw [hm.2, List.drop_eq_nil_of_le (by rw [← Lib.size_eq]; exact Nat.le_refl _)]
  simp [cut, glue]

/-- between two rounds -/
def St (s : ByteArray) (k : Nat) (m : List ByteArray) (t : ByteArray) : Prop :=
  (∀ n ∈ m, Ent.Right (Crc.tx n)) ∧ m.length ≤ 64 ∧ t.size ≤ k ∧ (Mid s k m t ∨ (k = s.size + 1 ∧ cut (s.extract 1 s.size).data.toList = m.map (·.data.toList)))
theorem St.mid {s : ByteArray} {k : Nat} {m : List ByteArray} {t : ByteArray} (h : St s k m t) (hk : k ≤ s.size) : Mid s k m t := by
  rcases h.2.2.2 with h | ⟨h, _⟩
  · exact h
  · omega
theorem St.byte {s : ByteArray} {k : Nat} {m : List ByteArray} {t : ByteArray} (h : St s k m t) (hk : k < s.size) (hb : s[k] ≠ 47) : St s (k + 1) m (t ++ s.extract k (k + 1)) :=
  ⟨h.1, h.2.1, by have := h.2.2.1; rw [ByteArray.size_append, ByteArray.size_extract]; omega, .inl (mid_byte hk hb (h.mid (Nat.le_of_lt hk)))⟩
theorem St.next {s : ByteArray} {k : Nat} {m : List ByteArray} {t : ByteArray} (h : St s k m t) (hk : k ≤ s.size) (hb : k = s.size ∨ ∃ h : k < s.size, s[k] = 47) (hr : Ent.Right (Crc.tx t)) (hl : m.length < 64) : St s (k + 1) (m ++ [t]) ByteArray.empty := by
  refine ⟨fun n hn => ?_, by simp; omega, Nat.zero_le _, ?_⟩
  · rcases List.mem_append.1 hn with h1 | h1
    · exact h.1 n h1
    · obtain rfl : n = t := by simpa using h1
      exact hr
  · rcases hb with rfl | ⟨hlt, hb⟩
    · exact .inr ⟨rfl, mid_end (h.mid hk)⟩
    · exact .inl (mid_cut hlt hb (h.mid hk))
theorem St.none {s : ByteArray} {k : Nat} {m : List ByteArray} {t : ByteArray} (h : St s k m t) (hk : k ≤ s.size) (hb : k = s.size ∨ ∃ h : k < s.size, s[k] = 47) (hr : ¬ Ent.Right (Crc.tx t) ∨ m.length = 64) : ¬ IsNames ((cut (s.extract 1 s.size).data.toList).map mk) := by
  obtain ⟨r, e⟩ := mid_piece hb (h.mid hk)
  intro hn
  rw [e] at hn
  rcases hr with hr | hr
  · exact hr (hn.2 t (by simp))
  · have := hn.1
    simp at this
    omega
theorem St.last {s : ByteArray} {k : Nat} {m : List ByteArray} {t : ByteArray} (h : St s k m t) (hk : s.size < k) : (cut (s.extract 1 s.size).data.toList).map mk = m ∧ IsNames m := by
  rcases h.2.2.2 with h1 | ⟨_, h1⟩
  · have := h1.1
    omega
  · exact ⟨by rw [h1, map_mk], h.2.1, h.1⟩

/-- what the document's Split answers -/
def RefS (w : World) (s : ByteArray) (e : Ending) (w' : World) : Prop :=
  Below w.heap.size w w' ∧ ((∃ l A c, spl s = some l ∧ e = .returned (.tuple #[.slice A l.length c, .bool true]) ∧ Txs w' A l ∧ l.length ≤ c ∧ ∀ a, A = some a → w.heap.size ≤ a.block) ∨ (spl s = none ∧ e = .returned (.tuple #[.slice none 0 0, .bool false])))
/-- names of the call's own -/
def GotO (w wr : World) (G : Option Addr) (gc : Nat) (m : List ByteArray) : Prop := wr.ownsRow w.heap.size 9 1 (.slice G m.length gc) m.length (strs m) ∧ Below w.heap.size w wr
theorem own_base {w : World} {B n c : Nat} {t : TypeId} {a : Addr} {xs : List Value} (h : w.ownsRow B t 1 (.slice (some a) n c) n xs) : B ≤ a.block := by
  rcases h.2 with ⟨e, _⟩ | ⟨g, cap, cur, e, hB, _⟩
  · cases e
  · injection e with e
    injection e with e
    subst e
    exact hB
theorem right_size {s : ByteArray} (h : Ent.Right (Crc.tx s)) : s.size ≤ 48 := by have := h.1.2; rw [Crc.tx_len] at this; exact this

end Pat
end Go.Proofs.YtkhkcfbacnkcnaaDoor
/- What going to names tells; whether names are a directory's; where a path's file stands. -/
namespace Go.Proofs.YtkhkcfbacnkcnaaDoor
open Go.RowKit Go.MapKept
namespace Tre
open Pat (Txs)

theorem fv_none {t : List Th} {n : Nm} (h : fi t n = none) : fv t n = -1 := by unfold fv; rw [h]
theorem fv_some {t : List Th} {n : Nm} {i : Nat} (h : fi t n = some i) : fv t n = (i : Int) := by unfold fv; rw [h]
theorem fi_lt {l : List Tg} {n : Nm} {i : Nat} (h : fi (ths l) n = some i) : i < l.length := by
  obtain ⟨h1, _⟩ := fi_some h
  simpa using h1
theorem isDir_at {l : List Tg} {i : Nat} (h : i < l.length) : isDirAt (ths l) i = l[i].2.2.2.1 := by
  unfold isDirAt
  rw [List.getElem?_eq_getElem (by simpa using h)]
  simp
theorem goF_none {t : List Th} {n : Nm} {f k : Nat} (h : fi t (n.take k) = none) : goF t n (f + 1) k = 4 := by rw [goF, h]
theorem goF_file {t : List Th} {n : Nm} {f k i : Nat} (h : fi t (n.take k) = some i) (hk : k < n.length) (hd : isDirAt t i = false) : goF t n (f + 1) k = 6 := by
  rw [goF, h]
  exact if_pos ⟨hk, hd⟩
theorem goF_next {t : List Th} {n : Nm} {f k i : Nat} (h : fi t (n.take k) = some i) (hn : ¬ (k < n.length ∧ isDirAt t i = false)) : goF t n (f + 1) k = goF t n f (k + 1) := by
  rw [goF, h]
  exact if_neg hn

theorem below_drew {w w1 : World} (h : Below w.drew.heap.size w.drew w1) : Below w.heap.size w w1 := ⟨h.os, h.tape, h.output, h.size, h.block⟩

end Tre
end Go.Proofs.YtkhkcfbacnkcnaaDoor
/- Whether names are a directory's; where a path's file stands. -/
namespace Go.Proofs.YtkhkcfbacnkcnaaDoor
open Go.RowKit Go.MapKept
namespace Tre
open Pat (Txs)

theorem dirT_nil (t : List Th) : dirT t [] = true := if_pos rfl
theorem dirT_none {t : List Th} {n : Nm} (h0 : n ≠ []) (h : fi t n = none) : dirT t n = false := by unfold dirT; rw [if_neg h0, h]
theorem dirT_some {t : List Th} {n : Nm} {i : Nat} (h0 : n ≠ []) (h : fi t n = some i) : dirT t n = isDirAt t i := by unfold dirT; rw [if_neg h0, h]

/-- where a path's file stands, or below 0; the error -/
def fileT (t : List Th) (p : ByteArray) : Int × Int :=
  match Pat.spl p with
  | none => (-1, 3)
  | some n => if goT t n ≠ 0 then (-1, goT t n) else if dirT t n = true then (-1, 7) else (fv t n, 0)
theorem fileT_none {t : List Th} {p : ByteArray} (h : Pat.spl p = none) : fileT t p = (-1, 3) := by unfold fileT; rw [h]
theorem fileT_go {t : List Th} {p : ByteArray} {n : Nm} (h : Pat.spl p = some n) (hg : goT t n ≠ 0) : fileT t p = (-1, goT t n) := by unfold fileT; rw [h]; exact if_pos hg
theorem fileT_dir {t : List Th} {p : ByteArray} {n : Nm} (h : Pat.spl p = some n) (hg : goT t n = 0) (hd : dirT t n = true) : fileT t p = (-1, 7) := by
  unfold fileT
  rw [h]
  exact (if_neg (fun h => h hg)).trans (if_pos hd)
theorem fileT_yes {t : List Th} {p : ByteArray} {n : Nm} (h : Pat.spl p = some n) (hg : goT t n = 0) (hd : dirT t n = false) : fileT t p = (fv t n, 0) := by
  unfold fileT
  rw [h]
  exact (if_neg (fun h => h hg)).trans (if_neg (by rw [hd]; decide))

end Tre
end Go.Proofs.YtkhkcfbacnkcnaaDoor
/- A thing more. -/
namespace Go.Proofs.YtkhkcfbacnkcnaaDoor
open Go.RowKit Go.MapKept
namespace Tre
open Pat (Txs)

theorem row_slice3 {B n : Nat} {W : World} {e : TypeId} {v : Value} {xs : List Value} (h : W.ownsRow B e 3 v n xs) : ∃ G c, v = .slice G n c := by
  rcases h.2 with ⟨e, h0⟩ | ⟨g, cap, cur, e, _⟩
  · exact ⟨none, 0, by rw [e, h0]⟩
  · exact ⟨_, _, e⟩
theorem row_base_lt3 {w : World} {B : Nat} {e : TypeId} {n : Nat} {v : Value} {xs : List Value} (h : w.ownsRow B e 3 v n xs) {g : Nat} (hg : v.ownBlock = some g) : B ≤ g := (World.ownsRow.lt h g hg).1
/-- a row of three cells each of the call's own stays -/
theorem own_keep3 {w w' : World} {B n : Nat} {t : TypeId} {v : Value} {xs : List Value} (h : w.ownsRow B t 3 v n xs) (hb : Below w.heap.size w w') : w'.ownsRow B t 3 v n xs := by
  have hN := fun g hg => (World.ownsRow.lt h g hg).2
  rcases h with ⟨h1, h2⟩
  refine ⟨h1, ?_⟩
  rcases h2 with h0 | ⟨g, cap, cur, e, hB, hh, hr⟩
  · exact .inl h0
  · exact .inr ⟨g, cap, cur, e, hB, (hb.block g (hN g (by rw [e]; rfl))).trans hh, hr⟩
theorem nil_of_none {w : World} {l : List Tg} (h : Ths w none l) : l = [] := by
  cases l with
  | nil => rfl
  | cons b l =>
    obtain ⟨_, _, e, _⟩ := h.at' 0 (by simp)
    cases e
theorem three_new (w : World) (x y z : Value) (t : TypeId) : ∀ j u, [x, y, z][j]? = some u → (w.alloc (.cells #[x, y, z] t)).cell? ((⟨w.heap.size, 0, none⟩ : Addr).add j) = some u := by
  intro j u hj
  match j, hj with
  | 0, hj =>
    simp at hj
    subst hj
    simp [Addr.add]
  | 1, hj =>
    simp at hj
    subst hj
    simp [Addr.add]
  | 2, hj =>
    simp at hj
    subst hj
    simp [Addr.add]

/-- a thing more; the error -/
def addT (t : List Th) (p : ByteArray) (d : Bool) : List Th × Int :=
  match Pat.spl p with
  | none => (t, 3)
  | some n => if n = [] then (t, 5) else if goT t (n.take (n.length - 1)) ≠ 0 then (t, goT t (n.take (n.length - 1))) else if dirT t (n.take (n.length - 1)) = false then (t, 6) else if (fi t n).isSome then (t, 5) else (t ++ [(n, d, ByteArray.empty)], 0)
/-- a tree that is answered, with an error -/
def TrR (w : World) (A0 : Option Addr) (l0 : List Tg) (r : List Th × Int) (e : Ending) (w' : World) : Prop :=
  ∃ (A : Option Addr) (c : Nat) (l : List Tg), e = .returned (.tuple #[tv A l.length c, .int .i64 r.2]) ∧ Ths w' A l ∧ ths l = r.1 ∧ (A = none → c = 0) ∧ l.length ≤ c ∧ Below w.heap.size w w' ∧ ∀ b, b < w.heap.size → Apart b A0 l0 → Apart b A l

theorem addT_none {t : List Th} {p : ByteArray} {d : Bool} (h : Pat.spl p = none) : addT t p d = (t, 3) := by unfold addT; rw [h]
theorem addT_root {t : List Th} {p : ByteArray} {d : Bool} (h : Pat.spl p = some []) : addT t p d = (t, 5) := by unfold addT; rw [h]; rfl
section
variable {t : List Th} {p : ByteArray} {d : Bool} {n : Nm} (h : Pat.spl p = some n) (h0 : n ≠ [])
include h h0
theorem addT_go (hg : goT t (n.take (n.length - 1)) ≠ 0) : addT t p d = (t, goT t (n.take (n.length - 1))) := by
  unfold addT
  rw [h]
  simp only
  rw [if_neg h0, if_pos hg]
theorem addT_file (hg : goT t (n.take (n.length - 1)) = 0) (hd : dirT t (n.take (n.length - 1)) = false) : addT t p d = (t, 6) := by
  unfold addT
  rw [h]
  simp only
  rw [if_neg h0, if_neg (fun h => h hg), if_pos hd]
theorem addT_there {i : Nat} (hg : goT t (n.take (n.length - 1)) = 0) (hd : dirT t (n.take (n.length - 1)) = true) (hf : fi t n = some i) : addT t p d = (t, 5) := by
  unfold addT
  rw [h]
  simp only
  rw [if_neg h0, if_neg (fun h => h hg), if_neg (by rw [hd]; decide), if_pos (by rw [hf]; rfl)]
theorem addT_yes (hg : goT t (n.take (n.length - 1)) = 0) (hd : dirT t (n.take (n.length - 1)) = true) (hf : fi t n = none) : addT t p d = (t ++ [(n, d, ByteArray.empty)], 0) := by
  unfold addT
  rw [h]
  simp only
  rw [if_neg h0, if_neg (fun h => h hg), if_neg (by rw [hd]; decide), if_neg (by rw [hf]; decide)]
end

/-- a tree in a box, and the answer's block -/
structure Bx (w : World) (b0 b1 : Nat) (v u : Value) : Prop where
  l0 : b0 < w.heap.size
  l1 : b1 < w.heap.size
  c0 : w.cell? ⟨b0, 0, none⟩ = some v
  c1 : w.cell? ⟨b1, 0, none⟩ = some u
  f1 : w.frozen? ⟨b1, 0, none⟩ = false
theorem Bx.keep {w w' : World} {b0 b1 : Nat} {v u : Value} (h : Bx w b0 b1 v u) (hb : Below w.heap.size w w') : Bx w' b0 b1 v u :=
  ⟨Nat.lt_of_lt_of_le h.l0 hb.size, Nat.lt_of_lt_of_le h.l1 hb.size, (hb.cell (p := ⟨b0, 0, none⟩) h.l0).trans h.c0, (hb.cell (p := ⟨b1, 0, none⟩) h.l1).trans h.c1, (hb.frozen (p := ⟨b1, 0, none⟩) h.l1).trans h.f1⟩
theorem bx_new (w : World) (v u : Value) (t t' : TypeId) : Bx ((w.alloc (.cells #[v] t)).alloc (.cells #[u] t')) w.heap.size (w.heap.size + 1) v u := by
  have e : (w.alloc (.cells #[v] t)).heap.size = w.heap.size + 1 := by simp
  have r := World.rowIs_alloc (w.alloc (.cells #[v] t)) #[u] t' (fun _ => u) (fun j hj => by
    have : j < 1 := hj
    match j, this with
    | 0, _ => rfl)
  rw [e] at r
  exact ⟨by simp; omega, by simp, by rw [World.cell?_alloc_old _ _ _ (by simp)]; exact Crc.alloc_cell w #[v] t 0, r.cell (by simp), r.frozen 0⟩

end Tre
end Go.Proofs.YtkhkcfbacnkcnaaDoor
/- A thing's bytes changed; noughts. -/
namespace Go.Proofs.YtkhkcfbacnkcnaaDoor
open Go.RowKit Go.MapKept
namespace Tre
open Pat (Txs)

/-- a tree that is answered: a new row, of names that these had -/
def TrV (w : World) (src : List Tg) (t : List Th) (e : Ending) (w' : World) : Prop :=
  ∃ (A : Option Addr) (c : Nat) (l : List Tg), e = .returned (tv A l.length c) ∧ Ths w' A l ∧ ths l = t ∧ (A = none → c = 0) ∧ l.length ≤ c ∧ Below w.heap.size w w' ∧ (∀ a, A = some a → w.heap.size ≤ a.block) ∧ ∀ g ∈ l, ∃ x ∈ src, g.1 = x.1 ∧ g.2.1 = x.2.1 ∧ g.2.2.1 = x.2.2.1
/-- a tree's things stay where a cell elsewhere is stored -/
theorem ths_put {w : World} {A : Option Addr} {l : List Tg} {b o : Nat} {u : Value} (h : Ths w A l) (hA : ∀ a, A = some a → b < a.block) (hn : ∀ g ∈ l, Txs (w.setCell ⟨b, o, none⟩ u) g.1 g.2.2.1) : Ths (w.setCell ⟨b, o, none⟩ u) A l :=
  ⟨h.len, fun g hg => ⟨hn g hg, (h.nm g hg).2⟩, h.sz, fun j hj => by
    obtain ⟨b', o', e, hlt, h0, h1, h2⟩ := h.at' j hj
    have hbb : b < b' := hA _ e
    refine ⟨b', o', e, by simpa [World.setCell] using hlt, ?_, ?_, ?_⟩
    all_goals rw [World.cell?_setCell_other _ _ _ _ (fun e => by injection e with e; omega)]
    · exact h0
    · exact h1
    · exact h2⟩

/-- the thing at i has other bytes -/
def setT : List Th → Nat → ByteArray → List Th
  | [], _, _ => []
  | x :: t, 0, s => (x.1, x.2.1, s) :: t
  | x :: t, i + 1, s => x :: setT t i s
def setG : List Tg → Nat → ByteArray → List Tg
  | [], _, _ => []
  | x :: t, 0, s => (x.1, x.2.1, x.2.2.1, x.2.2.2.1, s) :: t
  | x :: t, i + 1, s => x :: setG t i s
theorem setG_len : ∀ (l : List Tg) (i : Nat) (s : ByteArray), (setG l i s).length = l.length
  | [], _, _ => rfl
  | _ :: _, 0, _ => rfl
  | _ :: l, i + 1, s => by rw [setG, List.length_cons, List.length_cons, setG_len l i s]
theorem ths_setG : ∀ (l : List Tg) (i : Nat) (s : ByteArray), ths (setG l i s) = setT (ths l) i s
  | [], _, _ => rfl
  | _ :: _, 0, _ => rfl
  | x :: l, i + 1, s => by
    have := ths_setG l i s
    simp only [ths, setG, setT, List.map_cons] at *
    rw [this]
theorem tcells_setG : ∀ (l : List Tg) (i : Nat) (s : ByteArray), tcells (setG l i s) = (tcells l).set (i * 3 + 2) (.string s)
  | [], _, _ => rfl
  | _ :: _, 0, _ => rfl
  | x :: l, i + 1, s => by
    rw [show (i + 1) * 3 + 2 = i * 3 + 2 + 1 + 1 + 1 by omega, show tcells (setG (x :: l) (i + 1) s) = tc x ++ tcells (setG l i s) from rfl, tcells_setG l i s, show tcells (x :: l) = tc x ++ tcells l from rfl]
    rfl
theorem setG_mem : ∀ (l : List Tg) (i : Nat) (s : ByteArray) (g : Tg), g ∈ setG l i s → (∃ x ∈ l, g.1 = x.1 ∧ g.2.1 = x.2.1 ∧ g.2.2.1 = x.2.2.1) ∧ (g ∈ l ∨ g.2.2.2.2 = s)
  | [], _, _, g, h => by simp [setG] at h
  | x :: l, 0, s, g, h => by
    rcases List.mem_cons.1 h with rfl | h
    · exact ⟨⟨x, by simp, rfl, rfl, rfl⟩, .inr rfl⟩
    · exact ⟨⟨g, by simp [h], rfl, rfl, rfl⟩, .inl (by simp [h])⟩
  | x :: l, i + 1, s, g, h => by
    rcases List.mem_cons.1 h with rfl | h
    · exact ⟨⟨g, by simp, rfl, rfl, rfl⟩, .inl (by simp)⟩
    · obtain ⟨⟨y, hy, e⟩, h2⟩ := setG_mem l i s g h
      exact ⟨⟨y, by simp [hy], e⟩, h2.elim (fun h => .inl (by simp [h])) .inr⟩

/-- so many noughts -/
def zt (n : Nat) : ByteArray := Crc.str (List.replicate n 0)
theorem zt_size (n : Nat) : (zt n).size = n := by
  rw [Lib.size_eq]
  unfold zt Crc.str
  simp
theorem zeros_bts (w : World) (n : Nat) (hn : n ≤ 9223372036854775807) : Crc.Bts (w.alloc (.cells (madeCells #[.int .u8 0] n) 5)) (some ⟨w.heap.size, 0, none⟩) (List.replicate n 0) := by
  have hr := World.rowIs_made w (.int .u8 0) n 5
  refine ⟨fun b hb => ?_, by rw [List.length_replicate]; exact hn, fun j hj => ⟨w.heap.size, 0, rfl, by simp, ?_⟩⟩
  · obtain ⟨_, rfl⟩ := List.mem_replicate.1 hb
    decide
  · rw [List.length_replicate] at hj
    rw [Nat.zero_add, hr.cell hj, List.getElem_replicate]
    rfl
end Tre
end Go.Proofs.YtkhkcfbacnkcnaaDoor
/- A thing fewer. -/
namespace Go.Proofs.YtkhkcfbacnkcnaaDoor
open Go.RowKit Go.MapKept
namespace Tre
open Pat (Txs)

/-- at a step of a region that draws: an append whose run is known -/
theorem step_append_run {P : Program} {w w' : World} {ops : Array Oper} {o : Oper} {a : Act} {K : Act → World → Prop} {Q : Exit → Act → World → Prop} {E : Prop} (hgd : o.guard = none) (s x : Operand) (t : TypeId)
    (ho : o.op = .call { callee := .builtin .append, args := #[s, x], argTypes := #[t, t] }) (v u v' : Value) (hs : a.eval s = v) (hx : a.eval x = u) (hr : (Builtin.append_ #[t, t] o.type #[v, u]).run P w = .ok v' w')
    (h : K (a.put o.dst v') w') : if Region.wanted o (yielded ops a.tmps) = true then Oper.wp P o a w K Q else E := by
  have hw : Region.wanted o (yielded ops a.tmps) = true := by simp [Region.wanted, hgd]
  rw [if_pos hw]
  unfold Oper.wp execOp
  simp only [ho, resolve, invoke, builtin, Sem.run_bind, Sem.run_pure, Result.andThen_ok, List.map_toArray, List.map_cons, List.map_nil, hs, hx, hr]
  exact h

/-- a thing fewer -/
def dropT (t : List Th) (i : Nat) : List Th := t.take i ++ t.drop (i + 1)

end Tre
end Go.Proofs.YtkhkcfbacnkcnaaDoor
/- What stands in a tree, by its names; what a thing more, other bytes, a thing fewer make of it. Of no program. -/
namespace Go.Proofs.YtkhkcfbacnkcnaaDoor
open Go.RowKit Go.MapKept
namespace Trk
open Tre (Nm Th fi isDirAt dirT goT goF setT dropT)

/-- what stands there: whether it is a directory, the bytes -/
def T (t : List Th) (n : Nm) : Option (Bool × ByteArray) := if n = [] then some (true, ByteArray.empty) else (fi t n).bind fun i => t[i]?.map (·.2)
theorem T_root (t : List Th) : T t [] = some (true, ByteArray.empty) := if_pos rfl
theorem T_fi {t : List Th} {n : Nm} {i : Nat} (h0 : n ≠ []) (h : fi t n = some i) : ∃ h : i < t.length, T t n = some t[i].2 := by
  obtain ⟨h1, _, _⟩ := Tre.fi_some h
  refine ⟨h1, ?_⟩
  unfold T
  rw [if_neg h0, h]
  simp [List.getElem?_eq_getElem h1]
theorem T_none {t : List Th} {n : Nm} (h0 : n ≠ []) (h : fi t n = none) : T t n = none := by
  unfold T
  rw [if_neg h0, h]
  rfl
theorem T_no {t : List Th} {n : Nm} (h : T t n = none) : n ≠ [] ∧ fi t n = none := by
  have h0 : n ≠ [] := fun e => by rw [e, T_root] at h; cases h
  refine ⟨h0, ?_⟩
  cases hf : fi t n with
  | none => rfl
  | some i =>
    obtain ⟨_, h1⟩ := T_fi h0 hf
    rw [h1] at h
    cases h
theorem T_mem {t : List Th} {n : Nm} (h0 : n ≠ []) {v : Bool × ByteArray} (h : T t n = some v) : (n, v) ∈ t := by
  cases hf : fi t n with
  | none => rw [T_none h0 hf] at h; cases h
  | some i =>
    obtain ⟨h1, h2⟩ := T_fi h0 hf
    obtain ⟨_, h3, _⟩ := Tre.fi_some hf
    rw [h2] at h
    injection h with h
    have : t[i] = (n, v) := by rw [← h, ← h3]
    rw [← this]
    exact List.getElem_mem h1
theorem fi_mem {t : List Th} {x : Th} (h : x ∈ t) : ∃ i, fi t x.1 = some i := by
  cases hf : fi t x.1 with
  | some i => exact ⟨i, rfl⟩
  | none =>
    unfold Tre.fi at hf
    rw [List.findIdx?_eq_none_iff] at hf
    have := hf x h
    simp at this
/-- each names stand once -/
def Once (t : List Th) : Prop := (t.map (·.1)).Nodup
theorem once_at {t : List Th} (h : Once t) {i j : Nat} (hi : i < t.length) (hj : j < t.length) (e : t[i].1 = t[j].1) : i = j := by
  have := List.pairwise_iff_getElem.1 h
  rcases Nat.lt_trichotomy i j with hl | hl | hl
  · exact absurd (show (t.map (·.1))[i]'(by simpa using hi) = (t.map (·.1))[j]'(by simpa using hj) by rw [List.getElem_map, List.getElem_map]; exact e) (this i j (by simpa using hi) (by simpa using hj) hl)
  · exact hl
  · exact absurd (show (t.map (·.1))[j]'(by simpa using hj) = (t.map (·.1))[i]'(by simpa using hi) by rw [List.getElem_map, List.getElem_map]; exact e.symm) (this j i (by simpa using hj) (by simpa using hi) hl)
theorem mem_T {t : List Th} (h : Once t) {x : Th} (hx : x ∈ t) (h0 : x.1 ≠ []) : T t x.1 = some x.2 := by
  obtain ⟨i, hi⟩ := fi_mem hx
  obtain ⟨h1, h2⟩ := T_fi h0 hi
  obtain ⟨_, h3, _⟩ := Tre.fi_some hi
  obtain ⟨j, hj, rfl⟩ := List.getElem_of_mem hx
  have := once_at h h1 hj h3
  subst this
  exact h2
theorem fi_app {t : List Th} {x : Th} (h : fi t x.1 = none) (n : Nm) : fi (t ++ [x]) n = if n = x.1 then some t.length else fi t n := by
  have hx : ∀ y ∈ t, y.1 ≠ x.1 := fun y hy e => by
    obtain ⟨i, hi⟩ := fi_mem hy
    rw [e, h] at hi
    cases hi
  by_cases e : n = x.1
  · subst e
    rw [if_pos rfl]
    refine Tre.fi_at (by simp) (by simp) (fun j hj => ?_)
    rw [List.getElem_append_left hj]
    exact hx _ (List.getElem_mem _)
  · rw [if_neg e]
    cases hf : fi t n with
    | none =>
      refine Tre.fi_none (fun j hj => ?_)
      by_cases hjt : j < t.length
      · rw [List.getElem_append_left hjt]
        intro e'
        obtain ⟨i, hi⟩ := fi_mem (List.getElem_mem hjt)
        rw [e', hf] at hi
        cases hi
      · have : j = t.length := by simp at hj; omega
        subst this
        simpa using fun e' : x.1 = n => e e'.symm
    | some i =>
      obtain ⟨h1, h2, h3⟩ := Tre.fi_some hf
      refine Tre.fi_at (by simp; omega) (by rw [List.getElem_append_left h1]; exact h2) (fun j hj => ?_)
      rw [List.getElem_append_left (by omega)]
      exact h3 j hj
theorem T_app {t : List Th} {x : Th} (h0 : x.1 ≠ []) (h : fi t x.1 = none) (n : Nm) : T (t ++ [x]) n = if n = x.1 then some x.2 else T t n := by
  by_cases e : n = x.1
  · subst e
    rw [if_pos rfl]
    obtain ⟨h1, h2⟩ := T_fi (t := t ++ [x]) (i := t.length) h0 (by rw [fi_app h, if_pos rfl])
    rw [h2]
    simp
  · rw [if_neg e]
    unfold T
    by_cases hn : n = []
    · rw [if_pos hn, if_pos hn]
    · rw [if_neg hn, if_neg hn, fi_app h, if_neg e]
      cases hf : fi t n with
      | none => rfl
      | some i =>
        obtain ⟨h1, _, _⟩ := Tre.fi_some hf
        simp only [Option.bind_some]
        rw [List.getElem?_append_left h1]
theorem setT_len : ∀ (t : List Th) (i : Nat) (s : ByteArray), (setT t i s).length = t.length
  | [], _, _ => rfl
  | _ :: _, 0, _ => rfl
  | _ :: t, i + 1, s => by rw [setT, List.length_cons, List.length_cons, setT_len t i s]
theorem setT_at : ∀ (t : List Th) (i j : Nat) (s : ByteArray), (setT t i s)[j]? = t[j]?.map fun x => if j = i then (x.1, x.2.1, s) else x
  | [], i, j, s => by simp [setT]
  | x :: t, 0, 0, s => by simp [setT]
  | x :: t, 0, j + 1, s => by simp [setT]
  | x :: t, i + 1, 0, s => by simp [setT]
  | x :: t, i + 1, j + 1, s => by
    rw [setT, List.getElem?_cons_succ, List.getElem?_cons_succ, setT_at t i j s]
    simp
theorem setT_names (t : List Th) (i : Nat) (s : ByteArray) : (setT t i s).map (·.1) = t.map (·.1) := by
  apply List.ext_getElem?
  intro j
  rw [List.getElem?_map, List.getElem?_map, setT_at]
  cases t[j]? with
  | none => rfl
  | some x => simp only [Option.map_some]; split <;> rfl
theorem fi_set (t : List Th) (i : Nat) (s : ByteArray) (n : Nm) : fi (setT t i s) n = fi t n := by
  have key : ∀ u : List Th, fi u n = (u.map (·.1)).findIdx? (fun x => decide (x = n)) := fun u => by
    unfold Tre.fi
    rw [List.findIdx?_map]
    rfl
  rw [key, key, setT_names]
theorem T_set {t : List Th} {p : Nm} {i : Nat} (h0 : p ≠ []) (h : fi t p = some i) {d : Bool} {s : ByteArray} (hv : T t p = some (d, s)) (u : ByteArray) (n : Nm) : T (setT t i u) n = if n = p then some (d, u) else T t n := by
  obtain ⟨h1, h2, _⟩ := Tre.fi_some h
  unfold T
  rw [fi_set]
  by_cases e : n = p
  · subst e
    rw [if_pos rfl, if_neg h0, h]
    obtain ⟨h3, h4⟩ := T_fi h0 h
    rw [hv] at h4
    injection h4 with h4
    simp only [Option.bind_some]
    rw [setT_at, List.getElem?_eq_getElem h1]
    simp [← h4]
  · rw [if_neg e]
    by_cases hn : n = []
    · rw [if_pos hn, if_pos hn]
    · rw [if_neg hn, if_neg hn]
      cases hf : fi t n with
      | none => rfl
      | some j =>
        obtain ⟨g1, g2, _⟩ := Tre.fi_some hf
        simp only [Option.bind_some]
        rw [setT_at, List.getElem?_eq_getElem g1]
        have : j ≠ i := fun e' => by
          subst e'
          exact e (g2.symm.trans h2)
        simp [this]
theorem once_drop {t : List Th} (h : Once t) (i : Nat) : Once (dropT t i) := by
  unfold Once Tre.dropT at *
  rw [← List.eraseIdx_eq_take_drop_succ]
  exact ((List.eraseIdx_sublist t i).map _).nodup h
theorem mem_drop {t : List Th} (h : Once t) {i : Nat} (hi : i < t.length) (x : Th) : x ∈ dropT t i ↔ x ∈ t ∧ x.1 ≠ t[i].1 := by
  unfold Tre.dropT
  rw [List.mem_append]
  constructor
  · rintro (hx | hx)
    · obtain ⟨j, hj, rfl⟩ := List.getElem_of_mem hx
      have hj' : j < i := by simp at hj; omega
      rw [List.getElem_take]
      exact ⟨List.getElem_mem _, fun e => by have := once_at h (by omega) hi e; omega⟩
    · obtain ⟨j, hj, rfl⟩ := List.getElem_of_mem hx
      rw [List.getElem_drop]
      exact ⟨List.getElem_mem _, fun e => by have := once_at h (by simp at hj; omega) hi e; omega⟩
  · rintro ⟨hx, hne⟩
    obtain ⟨j, hj, rfl⟩ := List.getElem_of_mem hx
    have hji : j ≠ i := fun e => by subst e; exact hne rfl
    rcases Nat.lt_or_gt_of_ne hji with hl | hl
    · refine .inl (List.mem_of_getElem? (i := j) ?_)
      rw [List.getElem?_take, if_pos hl, List.getElem?_eq_getElem hj]
    · refine .inr (List.mem_of_getElem? (i := j - (i + 1)) ?_)
      rw [List.getElem?_drop, show i + 1 + (j - (i + 1)) = j by omega, List.getElem?_eq_getElem hj]
theorem T_drop {t : List Th} (h : Once t) {p : Nm} {i : Nat} (h0 : p ≠ []) (hi : fi t p = some i) (n : Nm) : T (dropT t i) n = if n = p then none else T t n := by
  obtain ⟨h1, h2, _⟩ := Tre.fi_some hi
  by_cases e : n = p
  · subst e
    rw [if_pos rfl]
    refine T_none h0 ?_
    cases hf : fi (dropT t i) n with
    | none => rfl
    | some j =>
      obtain ⟨g1, g2, _⟩ := Tre.fi_some hf
      exact absurd (g2.trans h2.symm) ((mem_drop h h1 _).1 (List.getElem_mem g1)).2
  · rw [if_neg e]
    by_cases hn : n = []
    · subst hn; rw [T_root, T_root]
    cases hv : T t n with
    | some v =>
      have hm := T_mem hn hv
      exact mem_T (once_drop h i) ((mem_drop h h1 (n, v)).2 ⟨hm, fun e' => e (e'.trans h2)⟩) hn
    | none =>
      cases hv' : T (dropT t i) n with
      | none => rfl
      | some v =>
        have hm := ((mem_drop h h1 _).1 (T_mem hn hv')).1
        rw [mem_T h hm hn] at hv
        cases hv
end Trk
end Go.Proofs.YtkhkcfbacnkcnaaDoor
/- The program's tree as it lies in memory: for each thing a block, its bytes' row, its map. -/
namespace Go.Proofs.YtkhkcfbacnkcnaaDoor
open Go.RowKit Go.MapKept
namespace Trk
open Tre (Nm Th fi setT dropT)

/-- where a thing lies: its block, where its bytes are, what room they have, its map -/
structure Nd where
  b : Nat
  A : Option Addr
  c : Nat
  m : Option Nat
/-- the blocks that are its own -/
def own (x : Nd) : List Nat := x.b :: (x.m.toList ++ (x.A.map (·.block)).toList)

/-- how a map's element reads: the block that it points to -/
def Rp : Value → Option (DataW Unit × List MemPlace)
  | .pointer none => some (.nil, [])
  | .pointer (some ⟨b, 0, none⟩) => some (.lit (.int .i64 (b : Int)), [])
  | _ => none
def pd : Option Nat → DataW Unit
  | none => .nil
  | some b => .lit (.int .i64 (b : Int))
def pv : Option Nat → Value
  | none => .pointer none
  | some b => .pointer (some ⟨b, 0, none⟩)
theorem rp_pv (o : Option Nat) : Rp (pv o) = some (pd o, []) := by cases o <;> rfl
theorem rp_inv {v : Value} {o : Option Nat} {ps : List MemPlace} (h : Rp v = some (pd o, ps)) : v = pv o := by
  cases o with
  | none =>
    unfold Rp pd at h
    split at h
    · rfl
    · simp at h
    · simp at h
  | some b =>
    unfold Rp pd at h
    split at h
    · simp at h
    · rename_i b'
      simp at h
      obtain rfl : b' = b := by omega
      rfl
    · simp at h
/-- a map that is asked by names -/
structure Ask (w : World) (g N : Nat) (f : ByteArray → Option Nat) (D : DataW Unit) : Prop where
  own : w.ownsMap Tryd.prog 9 Rp g N D
  ask : ∀ s : ByteArray, s.size ≤ maxLen → D.atKey (.string s.data.toList) .nil = pd (f s)
  non : ∀ s : ByteArray, f s = none → Maps.has D (.string s.data.toList) = false
theorem Ask.block {w w' : World} {g N : Nat} {f : ByteArray → Option Nat} {D : DataW Unit} (h : Ask w g N f D) (hb : w'.heap[g]? = w.heap[g]?) : Ask w' g N f D :=
  ⟨by obtain ⟨es, clock, h1, h2⟩ := h.own; exact ⟨es, clock, hb.trans h1, h2⟩, h.ask, h.non⟩
theorem key_of {s : ByteArray} (hs : s.size ≤ maxLen) : keyOf Tryd.prog 9 (.string s) = some (.string s.data.toList) := by
  simp [keyOf, mapKey, Tryd.underlying9, hs]
theorem keyed : Go.Maps.Keyed Tryd.prog 9 := Go.Maps.string_keyed Tryd.underlying9
theorem zero_p (w : World) : (zeroValue 59).run Tryd.prog w = .ok (.pointer none) w := by
  first | exact Tryd.zeroValue59 w | exact Tryd.zeroValue59
theorem Ask.look {w : World} {g N : Nat} {f : ByteArray → Option Nat} {D : DataW Unit} (h : Ask w g N f D) (s : ByteArray) (hs : s.size ≤ maxLen) :
    (Instr.lookup 43 (.map (some g)) (.string s) false).run Tryd.prog w = .ok (pv (f s)) w := by
  obtain ⟨v, ps, h1, h2⟩ := h.own.lookup keyed Tryd.underlying43 (zero_p w) (zd := .nil) (zp := []) rfl (key_of hs)
  rw [h.ask s hs] at h2
  rw [h1, rp_inv h2]
theorem look_nil (w : World) (s : ByteArray) (hs : s.size ≤ maxLen) : (Instr.lookup 43 (.map none) (.string s) false).run Tryd.prog w = .ok (.pointer none) w :=
  Maps.look_nil false keyed Tryd.underlying43 (zero_p w) (key_of hs)
theorem data_inj {s u : ByteArray} (h : s.data.toList = u.data.toList) : s = u := by
  apply ByteArray.ext
  exact Array.toList_inj.1 h
/-- an entry more -/
theorem Ask.store {w : World} {g N : Nat} {f : ByteArray → Option Nat} {D : DataW Unit} (h : Ask w g N f D) (s : ByteArray) (hs : s.size ≤ maxLen) (b : Nat) (hN : N ≤ 1000000) :
    ∃ w' D', (Instr.mapUpdate 43 (.map (some g)) (.string s) (.pointer (some ⟨b, 0, none⟩))).run Tryd.prog w = .ok () w' ∧ Ask w' g (N + 1) (fun x => if x = s then some b else f x) D' ∧ w.grownBy w' (some g) := by
  obtain ⟨w', h1, h2, h3⟩ := h.own.update keyed Tryd.underlying43 (by unfold maxLen; omega) (key_of hs) (rp_pv (some b))
  refine ⟨w', _, h1, ⟨h2, fun x hx => ?_, fun x hx => ?_⟩, h3⟩
  · by_cases e : x = s
    · subst e
      rw [if_pos rfl, Maps.atKey_put_same (k := .string x.data.toList) h.own.isMap trivial]
    · rw [if_neg e, Maps.atKey_put_other (fun e' => e (data_inj (by injection e'))), h.ask x hx]
  · by_cases e : x = s
    · rw [if_pos e] at hx
      cases hx
    · rw [if_neg e] at hx
      rw [Maps.has_put_other (fun e' => e (data_inj (by injection e')))]
      exact h.non x hx
/-- an entry fewer -/
theorem Ask.strike {w : World} {g N : Nat} {f : ByteArray → Option Nat} {D : DataW Unit} (h : Ask w g N f D) (s : ByteArray) (hs : s.size ≤ maxLen) (ty : TypeId) :
    ∃ w' D', (Builtin.delete_ #[43, 9] ty #[.map (some g), .string s]).run Tryd.prog w = .ok (.tuple #[]) w' ∧ Ask w' g N (fun x => if x = s then none else f x) D' ∧ w.grownBy w' (some g) := by
  obtain ⟨w', h1, h2, h3⟩ := h.own.drop keyed Tryd.underlying43 (key_of hs) ty
  refine ⟨w', _, h1, ⟨h2, fun x hx => ?_, fun x hx => ?_⟩, h3.grown⟩
  · by_cases e : x = s
    · subst e
      rw [if_pos rfl, Maps.atKey_del_same]
      rfl
    · rw [if_neg e, Maps.atKey_del_other (fun e' => e (data_inj (by injection e'))), h.ask x hx]
  · by_cases e : x = s
    · subst e
      exact Maps.has_del_same
    · rw [if_neg e] at hx
      rw [Maps.has_del_other (fun e' => e (data_inj (by injection e')))]
      exact h.non x hx
theorem ask_made (w : World) : Ask (w.alloc (.map #[] 0)) w.heap.size 0 (fun _ => none) (.map []) := ⟨World.ownsMap_made w _ _ _, fun _ _ => rfl, fun _ _ => rfl⟩

theorem Ask.has {w : World} {g N : Nat} {f : ByteArray → Option Nat} {D : DataW Unit} (h : Ask w g N f D) (s : ByteArray) (hs : s.size ≤ maxLen) : Maps.has D (.string s.data.toList) = (f s).isSome := by
  cases hf : f s with
  | none => exact h.non s hf
  | some b =>
    cases hh : Maps.has D (.string s.data.toList) with
    | true => rfl
    | false =>
      have := h.ask s hs
      rw [Maps.atKey_of_not_has hh, hf] at this
      cases this
/-- its keys -/
theorem Ask.keys {w : World} {g N : Nat} {f : ByteArray → Option Nat} {D : DataW Unit} (h : Ask w g N f D) {ks : List ByteArray} (hk : ks.Nodup) (hm : ∀ x, x ∈ ks ↔ (f x).isSome = true) (hl : ∀ x ∈ ks, x.size ≤ maxLen) : (ks.map fun x => x.data.toList).Perm (strKeys D) ∧ Maps.size D = ks.length := by
  obtain ⟨es, hD, hpw, _⟩ := h.own.entries keyed
  obtain ⟨es', hD', hko⟩ := h.own.keysOf
  obtain rfl : es = es' := by rw [hD] at hD'; simpa using hD'
  subst hD
  have hp : (ks.map fun x => x.data.toList).Perm (strKeys (.map es)) := by
    refine perm_strKeys hpw (fun p hp => by obtain ⟨v, hv⟩ := hko p hp; obtain ⟨x, _, hx, _⟩ := Maps.keyOf_str Tryd.underlying9 hv; exact ⟨x, hx⟩) (List.pairwise_map.2 (hk.imp fun hne e => hne (data_inj e))) (fun x => ?_)
    rw [List.mem_map]
    constructor
    · rintro ⟨y, hy, rfl⟩
      rw [h.has y (hl y hy)]
      exact (hm y).1 hy
    · intro hx
      have hxs : x ∈ strKeys (.map es) := by
        rw [Maps.has_eq, List.any_eq_true] at hx
        obtain ⟨p, hp, e⟩ := hx
        exact List.mem_map.2 ⟨p, hp, by rw [WideAt.sameKey_eq e]; rfl⟩
      have hxl := strKeys_le h.own Tryd.underlying9 x hxs
      refine ⟨⟨x.toArray⟩, (hm _).2 ?_, by simp⟩
      rw [← h.has ⟨x.toArray⟩ (show x.toArray.size ≤ maxLen by simpa using hxl)]
      simpa using hx
  refine ⟨hp, ?_⟩
  have := hp.length_eq
  rw [List.length_map] at this
  rw [this]
  show es.length = (es.map _).length
  rw [List.length_map]

/-- a directory's names by its map, or none -/
def Kd (w : World) (N : Nat) (f : ByteArray → Option Nat) : Option Nat → Prop
  | none => ∀ x, f x = none
  | some g => ∃ D, Ask w g N f D
theorem Kd.congr {w : World} {N : Nat} {f f' : ByteArray → Option Nat} {m : Option Nat} (h : Kd w N f m) (e : ∀ x, f x = f' x) : Kd w N f' m := by
  have : f = f' := funext e
  rw [← this]
  exact h
theorem Kd.mono {w : World} {N N' : Nat} {f : ByteArray → Option Nat} {m : Option Nat} (h : Kd w N f m) (hN : N ≤ N') : Kd w N' f m := by
  cases m with
  | none => exact h
  | some g => obtain ⟨D, hD⟩ := h; exact ⟨D, hD.own.mono hN, hD.ask, hD.non⟩
/-- the blocks of what is in a directory -/
def kb (t : List Th) (L : Nm → Nd) (p : Nm) (x : ByteArray) : Option Nat := (T t (p ++ [x])).map fun _ => (L (p ++ [x])).b
/-- a thing as it lies -/
structure Nod (w : World) (N : Nat) (x : Nd) (f : ByteArray → Option Nat) (d : Bool) (s : ByteArray) : Prop where
  box : ∃ ty, w.heap[x.b]? = some (.cells #[.bool (!d), .slice x.A s.size x.c, .map x.m] ty (0, 0))
  row : w.ownsRow 0 5 1 (.slice x.A s.size x.c) s.size (Crc.u8s (Crc.tx s))
  map : Kd w N f x.m
theorem Nod.block {w w' : World} {N : Nat} {x : Nd} {f : ByteArray → Option Nat} {d : Bool} {s : ByteArray} (h : Nod w N x f d s) (hb : ∀ i ∈ own x, w'.heap[i]? = w.heap[i]?) : Nod w' N x f d s := by
  refine ⟨?_, ?_, ?_⟩
  · obtain ⟨ty, h1⟩ := h.box
    exact ⟨ty, (hb _ (by simp [own])).trans h1⟩
  · rcases h.row with ⟨h1, h2⟩
    refine ⟨h1, ?_⟩
    rcases h2 with h0 | ⟨g, cap, cur, e, hB, hh, hr⟩
    · exact .inl h0
    · have hA : x.A = some ⟨g, 0, none⟩ := by injection e
      exact .inr ⟨g, cap, cur, e, hB, (hb g (by simp [own, hA])).trans hh, hr⟩
  · have := h.map
    cases hm : x.m with
    | none => rw [hm] at this; exact this
    | some g =>
      rw [hm] at this
      obtain ⟨D, hD⟩ := this
      exact ⟨D, hD.block (hb g (by simp [own, hm]))⟩
theorem Nod.lt {w : World} {N : Nat} {x : Nd} {f : ByteArray → Option Nat} {d : Bool} {s : ByteArray} (h : Nod w N x f d s) : ∀ i ∈ own x, i < w.heap.size := by
  intro i hi
  simp only [own, List.mem_cons, List.mem_append, Option.mem_toList] at hi
  rcases hi with rfl | hi | hi
  · obtain ⟨ty, h1⟩ := h.box
    exact (Array.getElem?_eq_some_iff.1 h1).1
  · have := h.map
    rw [hi] at this
    obtain ⟨D, hD⟩ := this
    exact hD.own.lt
  · rcases h.row with ⟨_, h0 | ⟨g, cap, cur, e, hB, hh, hr⟩⟩
    · have hA : x.A = none := by injection h0.1
      rw [hA] at hi
      simp at hi
    · have hA : x.A = some ⟨g, 0, none⟩ := by injection e
      rw [hA] at hi
      simp at hi
      subst hi
      exact (Array.getElem?_eq_some_iff.1 hh).1

section
variable {w : World} {N : Nat} {x : Nd} {f : ByteArray → Option Nat} {d : Bool} {s : ByteArray} (h : Nod w N x f d s)
include h
theorem Nod.c0 : w.cell? ⟨x.b, 0, none⟩ = some (.bool (!d)) := by
  obtain ⟨ty, h1⟩ := h.box
  simp [World.cell?, h1]
theorem Nod.c1 : w.cell? ⟨x.b, 1, none⟩ = some (.slice x.A s.size x.c) := by
  obtain ⟨ty, h1⟩ := h.box
  simp [World.cell?, h1]
theorem Nod.c2 : w.cell? ⟨x.b, 2, none⟩ = some (.map x.m) := by
  obtain ⟨ty, h1⟩ := h.box
  simp [World.cell?, h1]
theorem Nod.fr (o : Nat) : w.frozen? ⟨x.b, o, none⟩ = false := by
  obtain ⟨ty, h1⟩ := h.box
  simp [World.frozen?, h1]
theorem Nod.look (z : ByteArray) (hz : z.size ≤ maxLen) : (Instr.lookup 43 (.map x.m) (.string z) false).run Tryd.prog w = .ok (pv (f z)) w := by
  have := h.map
  cases hm : x.m with
  | none =>
    rw [hm] at this
    rw [this z]
    exact look_nil w z hz
  | some g =>
    rw [hm] at this
    obtain ⟨D, hD⟩ := this
    exact hD.look z hz
theorem Nod.blt : x.b < w.heap.size := h.lt _ (by simp [own])
end

/-- a tree as it lies: its things, each apart -/
structure Mem (w : World) (N : Nat) (t : List Th) (L : Nm → Nd) : Prop where
  nod : ∀ p d s, T t p = some (d, s) → Nod w N (L p) (kb t L p) d s
  one : ∀ p v, T t p = some v → (own (L p)).Nodup
  apart : ∀ p q v u, T t p = some v → T t q = some u → p ≠ q → ∀ i ∈ own (L p), i ∉ own (L q)
/-- its blocks -/
def Fp (t : List Th) (L : Nm → Nd) (i : Nat) : Prop := ∃ p v, T t p = some v ∧ i ∈ own (L p)
theorem Mem.lt {w : World} {N : Nat} {t : List Th} {L : Nm → Nd} (h : Mem w N t L) {i : Nat} (hi : Fp t L i) : i < w.heap.size := by
  obtain ⟨p, ⟨d, s⟩, h1, h2⟩ := hi
  exact (h.nod p d s h1).lt i h2
theorem Mem.block {w w' : World} {N : Nat} {t : List Th} {L : Nm → Nd} (h : Mem w N t L) (hb : ∀ i, Fp t L i → w'.heap[i]? = w.heap[i]?) : Mem w' N t L :=
  ⟨fun p d s e => (h.nod p d s e).block fun i hi => hb i ⟨p, _, e, hi⟩, h.one, h.apart⟩
theorem Mem.keep {w w' : World} {N : Nat} {t : List Th} {L : Nm → Nd} (h : Mem w N t L) (hb : Below w.heap.size w w') : Mem w' N t L := h.block fun i hi => hb.block i (h.lt hi)
/-- what stands elsewhere stays -/
theorem Mem.step {w w' : World} {N N' : Nat} {t t' : List Th} {L L' : Nm → Nd} (h : Mem w N t L) (S : Nm → Prop) (hN : N ≤ N')
    (hT : ∀ q, ¬ S q → T t' q = T t q) (hL : ∀ q, ¬ S q → L' q = L q)
    (hH : ∀ q v, T t q = some v → ¬ S q → ∀ i ∈ own (L q), w'.heap[i]? = w.heap[i]?)
    (hC : ∀ q x v, T t q = some v → ¬ S q → kb t' L' q x = kb t L q x)
    (hn : ∀ q d s, S q → T t' q = some (d, s) → Nod w' N' (L' q) (kb t' L' q) d s)
    (h1 : ∀ q v, S q → T t' q = some v → (own (L' q)).Nodup)
    (ha : ∀ q r v u, S q → T t' q = some v → T t' r = some u → r ≠ q → ∀ i ∈ own (L' q), i ∉ own (L' r)) : Mem w' N' t' L' := by
  refine ⟨fun p d s e => ?_, fun p v e => ?_, fun p q v u ep eq hne i hi => ?_⟩
  · by_cases hS : S p
    · exact hn p d s hS e
    · have e' := (hT p hS).symm.trans e
      have := (h.nod p d s e').block (hH p _ e' hS)
      rw [hL p hS]
      exact ⟨this.box, this.row, (this.map.congr fun x => (hC p x _ e' hS).symm).mono hN⟩
  · by_cases hS : S p
    · exact h1 p v hS e
    · rw [hL p hS]
      exact h.one p v ((hT p hS).symm.trans e)
  · by_cases hS : S p
    · exact ha p q v u hS ep eq (fun e => hne e.symm) i hi
    · by_cases hS' : S q
      · intro hi'
        exact ha q p u v hS' eq ep hne i hi' hi
      · rw [hL p hS] at hi
        rw [hL q hS']
        exact h.apart p q v u ((hT p hS).symm.trans ep) ((hT q hS').symm.trans eq) hne i hi

/-- all is as it was, but for some blocks -/
structure Chg (F : Nat → Prop) (w w' : World) : Prop where
  os : w'.os = w.os
  tape : w'.tape = w.tape
  output : w'.output = w.output
  size : w.heap.size ≤ w'.heap.size
  block : ∀ k, k < w.heap.size → ¬ F k → w'.heap[k]? = w.heap[k]?
theorem Chg.refl (F : Nat → Prop) (w : World) : Chg F w w := ⟨rfl, rfl, rfl, Nat.le_refl _, fun _ _ _ => rfl⟩
theorem Chg.of_below {F : Nat → Prop} {w w' : World} (h : Below w.heap.size w w') : Chg F w w' := ⟨h.os, h.tape, h.output, h.size, fun k hk _ => h.block k hk⟩
theorem Chg.trans {F G : Nat → Prop} {a b c : World} (h : Chg F a b) (k : Chg G b c) (hG : ∀ i, G i → F i ∨ a.heap.size ≤ i) : Chg F a c :=
  ⟨k.os.trans h.os, k.tape.trans h.tape, k.output.trans h.output, Nat.le_trans h.size k.size, fun i hi hF => (k.block i (Nat.lt_of_lt_of_le hi h.size) (fun hg => by rcases hG i hg with h' | h'; exact hF h'; omega)).trans (h.block i hi hF)⟩
theorem Chg.then {F : Nat → Prop} {a b c : World} (h : Chg F a b) (k : Below b.heap.size b c) : Chg F a c := h.trans (Chg.of_below (F := fun _ => False) k) (fun _ h => h.elim)
theorem Chg.after {F : Nat → Prop} {a b c : World} (h : Below a.heap.size a b) (k : Chg F b c) : Chg F a c := (Chg.of_below h).trans k (fun _ h => .inl h)
theorem Chg.grown {F : Nat → Prop} {a b : World} {g : Nat} (h : a.grownBy b (some g)) (hg : F g) : Chg F a b := ⟨h.os, h.tape, h.output, h.size, fun k hk hF => h.block k hk (fun e => by injection e with e; subst e; exact hF hg)⟩
theorem Chg.below {F : Nat → Prop} {a b : World} {B : Nat} (h : Chg F a b) (hB : B ≤ a.heap.size) (hF : ∀ i, F i → B ≤ i) : Below B a b := ⟨h.os, h.tape, h.output, h.size, fun k hk => h.block k (by omega) (fun hf => by have := hF k hf; omega)⟩
end Trk
end Go.Proofs.YtkhkcfbacnkcnaaDoor
/- The library's bodies (internal/stringslite.Clone) as they stand in this program, in plain words. -/
namespace Go.Proofs
open Go.Shelf
def Tryd.cloneA_ren : Go.Shelf.Ren := ⟨fun | 316 => 53 | n => n, fun | 9 => 9 | 3 => 3 | 4 => 4 | 37 => 23 | 0 => 0 | 127 => 94 | 5 => 5 | n => n, fun | n => n⟩
theorem Tryd.cloneA : Go.Proofs.LaysM.n316 Tryd.prog Tryd.cloneA_ren := {
  mixed := by kernel_rfl
  f316 := Tryd.func53.trans (congrArg some (by kernel_rfl))
  t0 := Tryd.underlying0
  a0 := Tryd.isAgg0
  z0 := Tryd.sizeOf0
  v0 := Tryd.zeroValue0
  t3 := Tryd.underlying3
  a3 := Tryd.isAgg3
  z3 := Tryd.sizeOf3
  v3 := Tryd.zeroValue3
  t4 := Tryd.underlying4
  a4 := Tryd.isAgg4
  z4 := Tryd.sizeOf4
  v4 := Tryd.zeroValue4
  t9 := Tryd.underlying9
  a9 := Tryd.isAgg9
  z9 := Tryd.sizeOf9
  v9 := Tryd.zeroValue9
  t37 := Tryd.underlying23
  a37 := Tryd.isAgg23
  z37 := Tryd.sizeOf23
  v37 := Tryd.zeroValue23
  t127 := Tryd.underlying94
  a127 := Tryd.isAgg94
  z127 := Tryd.sizeOf94
  v127 := Tryd.zeroValue94
  t5 := Tryd.underlying5
  a5 := Tryd.isAgg5
  z5 := Tryd.sizeOf5
  v5 := Tryd.zeroValue5
  i0 := by kernel_rfl
  i3 := by kernel_rfl
  i4 := by kernel_rfl
  i5 := by kernel_rfl
  i9 := by kernel_rfl
  i37 := by kernel_rfl
  i127 := by kernel_rfl }
end Go.Proofs
