/- The program's Split, and whether texts are a path's names. -/
import Derived.Test.YtobffegkdoefnaaDoorPatCut
import Derived.Test.YtobffegkdoefnaaDoorPatOrd
import Derived.Test.YtobffegkdoefnaaDoorPatLay
namespace Go.Proofs.YtobffegkdoefnaaDoor
open Go.RowKit Go.MapKept Go.Shelf
namespace Pat

theorem isNames_no {l : List ByteArray} (h : ¬ IsNames l) : isNames l = false := decide_eq_false h
set_option maxHeartbeats 1000000 in
theorem right_any (w : World) (A : Option Addr) (c n : Nat) (l : List ByteArray) (h : Txs w A l) (hn : l.length = n) :
    Calls Tryd.prog 22 #[.slice A n c] w fun e w' => e = .returned (.bool (isNames l)) ∧ w' = w := by
  subst hn
  have hl := h.len
  have H := Lib.hid h
  clear h
  by_cases h64 : l.length ≤ 64
  · have hg : ¬ (64 : Int) < (l.length : Int) := by omega
    go_enter Tryd.func22, Tryd.ntmps22
    go_wp2
    go_loopw [10] (fun i wr => ∃ k : Nat, k ≤ l.length ∧ i = .int .i64 (k : Int) ∧ wr = w ∧ ∀ s ∈ l.take k, Ent.Right (Crc.tx s)) (fun i _ => l.length - (intOf i).toNat)
    case atStart => exact ⟨0, Nat.zero_le _, rfl, rfl, fun s hs => by simp at hs⟩
    case round =>
      obtain ⟨k, hk, rfl, rfl, hr⟩ := hrel
      have HR := Lib.hid hr
      clear hr
      by_cases hlt : k < l.length
      · obtain ⟨b, o, rfl, _, hc0⟩ := H.out.at' k hlt
        have hs := H.out.size _ (List.getElem_mem hlt)
        have HT := Lib.hid (show l.take (k + 1) = l.take k ++ [l[k]] from List.take_succ_eq_append_getElem hlt)
        have HM := Lib.hid (List.getElem_mem hlt)
        generalize l[k] = s at *
        by_cases hr : Ent.Right (Crc.tx s)
        · have hrb : Ent.right (Crc.tx s) = true := Ent.right_iff.2 hr
          have HX := Lib.hid hr
          clear hr
          go_wp2_with fail
          refine (Ent.right_any _ s hs).mono ?_
          rintro e w' ⟨rfl, rfl⟩
          rw [hrb]
          go_wp2
          refine ⟨⟨k + 1, by omega, by go_num, by first | rfl | trivial, ?_⟩, by simp [intOf]; omega⟩
          rw [HT.out]
          intro x hx
          rcases List.mem_append.1 hx with h1 | h1
          · exact HR.out x h1
          · obtain rfl : x = s := by simpa using h1
            exact HX.out
        · have hrb : Ent.right (Crc.tx s) = false := Ent.right_no hr
          have HX := Lib.hid (isNames_no (l := l) (fun h => hr (h.2 _ HM.out)))
          clear hr
          go_wp2_with fail
          refine (Ent.right_any _ s hs).mono ?_
          rintro e w' ⟨rfl, rfl⟩
          rw [hrb]
          go_wp2
          go_ret
          exact ⟨by rw [HX.out]; rfl, rfl⟩
      · obtain rfl : k = l.length := by omega
        rw [List.take_length] at HR
        have HX := Lib.hid (show isNames l = true from decide_eq_true ⟨h64, HR.out⟩)
        go_wp2
        go_ret
        exact ⟨by rw [HX.out]; rfl, rfl⟩
  · have hg : (64 : Int) < (l.length : Int) := by omega
    have HX := Lib.hid (isNames_no (l := l) (fun h => h64 h.1))
    go_enter Tryd.func22, Tryd.ntmps22
    go_wp2
    go_ret
    exact ⟨by rw [HX.out]; rfl, rfl⟩

/-! The library's SplitN at one byte. -/
theorem index_one (w : World) (x : ByteArray) (c : Array Value) (t : TypeId) : Calls Tryd.prog 42 #[.string x, .string ⟨#[47]⟩] (w.alloc (.cells c t)) fun e w' => e = .returned (.int .i64 (Lib.indexB x ⟨#[47]⟩)) ∧ w' = w.alloc (.cells c t) :=
  (Any.strings_Index_one { Tryd.splitA with } x 47 (w.alloc (.cells c t))).mono fun e w' ⟨he, hw⟩ => ⟨by
    rw [he]
    show _ = Ending.returned (Value.int .i64 (Lib.index x.data.toList [47]))
    rw [Lib.index_one], hw⟩
theorem count_one (w : World) (s : ByteArray) : Calls Tryd.prog 41 #[.string s, .string ⟨#[47]⟩] w fun e w' => e = .returned (.int .i64 (Lib.countB s ⟨#[47]⟩)) ∧ w' = w :=
  (Any.strings_Count_one { Tryd.splitA with } s 47 w).mono fun e w' ⟨he, hw⟩ => ⟨by
    rw [he]
    show _ = Ending.returned (Value.int .i64 ((Lib.count s.data.toList [47] : Nat) : Int))
    rw [Lib.count_one]
    rfl, hw⟩
/-- what 65 pieces at most come to -/
theorem pieces_few {s : ByteArray} (h : (cut s.data.toList).length ≤ 64) : Lib.splitB ⟨#[47]⟩ 0 (min 65 (s.size + 1) - 1) s = (cut s.data.toList).map mk := by
  have h1 := Lib.splitB_data ⟨#[47]⟩ 0 (min 65 (s.size + 1) - 1) s
  have hl := cut_len s.data.toList
  rw [← Lib.size_eq] at hl
  have h2 : Lib.splitK [47] 0 (min 65 (s.size + 1) - 1) s.data.toList = cut s.data.toList := splitK_few _ _ (by omega)
  have h3 := congrArg (List.map mk) (h1.trans h2)
  rw [map_mk] at h3
  exact h3
theorem pieces_many {s : ByteArray} (h : ¬ (cut s.data.toList).length ≤ 64) : (Lib.splitB ⟨#[47]⟩ 0 (min 65 (s.size + 1) - 1) s).length = 65 := by
  have h1 := congrArg List.length (Lib.splitB_data ⟨#[47]⟩ 0 (min 65 (s.size + 1) - 1) s)
  have hl := cut_len s.data.toList
  rw [← Lib.size_eq] at hl
  have hk : min 65 (s.size + 1) - 1 = 64 := by omega
  rw [hk] at h1 ⊢
  rw [List.length_map] at h1
  rw [h1]
  exact splitK_many 64 s.data.toList (by omega)
theorem piece_size (k : Nat) : ∀ (s : ByteArray), ∀ x ∈ Lib.splitB ⟨#[47]⟩ 0 k s, x.size ≤ s.size := by
  induction k with
  | zero =>
    intro s x hx
    rw [Lib.splitB_zero] at hx
    obtain rfl : x = s := by simpa using hx
    exact Nat.le_refl _
  | succ k ih =>
    intro s x hx
    rcases Lib.indexB_cases s ⟨#[47]⟩ with hix | ⟨i, hix, hroom⟩
    · rw [Lib.splitB_miss _ _ _ _ hix] at hx
      obtain rfl : x = s := by simpa using hx
      exact Nat.le_refl _
    · rw [Lib.splitB_hit _ _ _ _ i hix] at hx
      rcases List.mem_cons.1 hx with rfl | hx
      · rw [ByteArray.size_extract]; omega
      · have := ih _ x hx
        rw [ByteArray.size_extract] at this
        omega
theorem cells_txs (w : World) (l : List ByteArray) (N : Nat) (t : TypeId) (hs : ∀ s ∈ l, s.size ≤ 9223372036854775807) (hl : l.length ≤ 9223372036854775807) : Txs (w.alloc (.cells (Lib.cellsOf l N) t)) (some ⟨w.heap.size, 0, none⟩) l :=
  ⟨hs, hl, fun j hj => ⟨w.heap.size, 0, rfl, by simp, by
    rw [Nat.zero_add, World.cell?_alloc_mark]
    unfold Lib.cellsOf
    rw [List.getElem?_toArray, List.getElem?_append_left (by simpa using hj), List.getElem?_map, List.getElem?_eq_getElem hj]
    rfl⟩⟩

/-- names that a call made -/
def GotN (w : World) (l : List ByteArray) (c : Nat) (e : Ending) (w' : World) : Prop :=
  ∃ A, e = .returned (.slice A l.length c) ∧ l.length ≤ c ∧ Txs w' A l ∧ Below w.heap.size w w'
set_option maxRecDepth 100000 in
set_option maxHeartbeats 1000000 in
theorem splitN_any (w : World) (s : ByteArray) (hs : s.size < 4294967281) :
    Calls Tryd.prog 21 #[.string s, .string ⟨#[47]⟩, .int .i64 65] w (GotN w (Lib.splitB ⟨#[47]⟩ 0 (min 65 (s.size + 1) - 1) s) (min 65 (s.size + 1))) := by
  have c := Any.strings_genSplit_core { Tryd.splitA with } str_info s ⟨#[47]⟩ 0 65 (min 65 (s.size + 1)) w hs (by decide) (Nat.zero_le _) (fun x c _ => index_one w x c 9) (count_one w s) (by decide) (by decide) (by rw [if_neg (by decide)]; omega)
  have hle := Lib.splitB_length_le ⟨#[47]⟩ 0 (min 65 (s.size + 1) - 1) s
  have hps := piece_size (min 65 (s.size + 1) - 1) s
  have HT := Lib.hid (cells_txs w (Lib.splitB ⟨#[47]⟩ 0 (min 65 (s.size + 1) - 1) s) (min 65 (s.size + 1)) 9 (fun x hx => by have := hps x hx; omega) (by omega))
  have HC := Lib.hid (show Calls Tryd.prog 29 #[.string s, .string ⟨#[47]⟩, .int .i64 0, .int .i64 65] w _ from c)
  have HL := Lib.hid (show (Lib.splitB ⟨#[47]⟩ 0 (min 65 (s.size + 1) - 1) s).length ≤ min 65 (s.size + 1) by omega)
  have HB := Lib.hid ((Below.refl w.heap.size w).alloc (Nat.le_refl _) (.cells (Lib.cellsOf (Lib.splitB ⟨#[47]⟩ 0 (min 65 (s.size + 1) - 1) s) (min 65 (s.size + 1))) 9))
  clear c hle hps
  go_enter Tryd.func21, Tryd.ntmps21
  go_wp2_with fail
  refine HC.out.mono ?_
  rintro e w1 ⟨rfl, hw⟩
  have HX := Lib.hid (show GotN w (Lib.splitB ⟨#[47]⟩ 0 (min 65 (s.size + 1) - 1) s) (min 65 (s.size + 1)) (.returned (.slice (some ⟨w.heap.size, 0, none⟩) (Lib.splitB ⟨#[47]⟩ 0 (min 65 (s.size + 1) - 1) s).length (min 65 (s.size + 1)))) w1 by
    rw [hw]
    exact ⟨_, rfl, HL.out, HT.out, HB.out⟩)
  clear hw HC HT HL HB
  go_wp2
  go_ret
  exact HX.out

/-! Split. -/
/-- what Split answers -/
def SplR (w : World) (s : ByteArray) (e : Ending) (w' : World) : Prop :=
  Below w.heap.size w w' ∧ ((∃ l A c, spl s = some l ∧ e = .returned (.tuple #[.slice A l.length c, .int .i64 0]) ∧ l.length ≤ c ∧ Txs w' A l) ∨ (spl s = none ∧ e = .returned (.tuple #[.slice none 0 0, .int .i64 3])))
theorem spl_root {s : ByteArray} (h : s.toList = [47]) : spl s = some [] := by
  have : s.data.toList = [47] := by rw [← Lib.toList_data]; exact h
  unfold spl
  rw [this]
  rfl
theorem data_cons {s : ByteArray} (h0 : 0 < s.size) : s.data.toList = s[0] :: (s.extract 1 s.size).data.toList := by
  rw [Lib.extract_to_end]
  have h1 := Lib.data_getElem? s 0 h0
  cases e : s.data.toList with
  | nil => rw [e] at h1; simp at h1
  | cons b l =>
    rw [e] at h1
    simp at h1
    rw [h1]
    rfl
theorem spl_cons {s : ByteArray} (h0 : 0 < s.size) (hb : s[0] = 47) (h1 : s.toList ≠ [47]) : spl s = if IsNames ((cut (s.extract 1 s.size).data.toList).map mk) then some ((cut (s.extract 1 s.size).data.toList).map mk) else none := by
  have e := data_cons h0
  rw [hb] at e
  have hr : (s.extract 1 s.size).data.toList ≠ [] := fun h => h1 (by rw [Lib.toList_data, e, h])
  unfold spl
  rw [e]
  simp only [if_true]
  rw [if_neg hr]
theorem spl_other {s : ByteArray} (h : ∀ h0 : 0 < s.size, s[0] ≠ 47) : spl s = none := by
  by_cases h0 : 0 < s.size
  · have e := data_cons h0
    unfold spl
    rw [e]
    simp only
    rw [if_neg (h h0)]
  · have : s.data.toList = [] := List.length_eq_zero_iff.1 (by rw [← Lib.size_eq]; omega)
    unfold spl
    rw [this]
theorem head_text {s : ByteArray} (h0 : 0 < s.size) : (s.extract 0 1).toList = [s[0]] := by
  rw [Lib.toList_data, Lib.extract_from_zero, data_cons h0]
  rfl
end Pat
end Go.Proofs.YtobffegkdoefnaaDoor
