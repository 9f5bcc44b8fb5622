/- Read, walked: of a device that the call made. -/
import Derived.Test.YthfkbfbchoekjaaSupTurned
import Derived.Test.YthfkbfbchoekjaaPmLives
namespace Go.Proofs.Ythfkbfbchoekjaa
open Go.RowKit Go.MapKept
namespace Sup

theorem ses_keep {B a : Nat} {w0 w w' : World} {A : Pm.Abs} (h : Pm.Ses B w0 w a A) (hb : Below w.heap.size w w') : Pm.Ses B w0 w' a A := by
  obtain ⟨D, hrep, e, ok, hbel, hf, hz⟩ := h
  exact ⟨D, hrep.keep (fun k hk => hb.block k (hrep.foot_lt hk)), e, ok, hbel.trans (hb.mono hz), hf, Nat.le_trans hz hb.size⟩

/-- a device's first words -/
def rd (A : Pm.Abs) : List Nat := (List.range 8).map fun i => (A.words[i]?.getD 0).toNat
theorem rd_len (A : Pm.Abs) : (rd A).length = 8 := by simp [rd]
theorem rd_get (A : Pm.Abs) {k : Nat} (hk : k < 8) : (rd A)[k]?.getD 0 = (A.words[k]?.getD 0).toNat := by
  unfold rd
  rw [List.getElem?_map, List.getElem?_range hk]
  rfl

/-- whose a device is -/
def ron (l : List Nat) (L : Nat) : Option (Nat × Nat × Nat) :=
  match dec l with
  | some (n, m, s) => if Geo.fin n m s = (L : Int) then some (n, m, s) else none
  | none => none

/-- all are words -/
def U64 (l : List Int) : Prop := ∀ x ∈ l, 0 ≤ x ∧ x < 18446744073709551616
theorem U64.get {l : List Int} (h : U64 l) (k : Nat) : 0 ≤ l[k]?.getD 0 ∧ l[k]?.getD 0 < 18446744073709551616 := by
  rcases Nat.lt_or_ge k l.length with h1 | h1
  · rw [List.getElem?_eq_getElem h1]
    exact h _ (List.getElem_mem h1)
  · rw [List.getElem?_eq_none h1]
    simp

theorem rd_u64 {A : Pm.Abs} (h : U64 A.words) : ∀ x ∈ rd A, x < 18446744073709551616 := by
  intro x hx
  obtain ⟨k, _, rfl⟩ := List.mem_map.1 hx
  have := h.get k
  omega

theorem load_any {B a : Nat} {w0 w : World} {A : Pm.Abs} (h : Pm.Ses B w0 w a A) (hu : U64 A.words) (k : Nat) (hk : k < 8) : Calls Try.prog 34 #[.pointer (some ⟨a, 0, none⟩), .int .i64 (k : Int)] w fun r w' => r = .returned (.int .u64 (((rd A)[k]?.getD 0 : Nat) : Int)) ∧ w = w' := by
  refine (Pm.ses_load h (k : Int)).mono ?_
  rintro r w' ⟨rfl, rfl⟩
  refine ⟨?_, rfl⟩
  have e : (((rd A)[k]?.getD 0 : Nat) : Int) = A.words[k]?.getD 0 := by
    rw [rd_get A hk]
    have := hu.get k
    omega
  rw [e]
  cases hh : A.has (k : Int) with
  | true => simp
  | false =>
    have : A.words.length ≤ k := by
      unfold Pm.Abs.has at hh
      simp at hh
      omega
    rw [List.getElem?_eq_none this]
    simp

/-- the words up to m, noughts behind them -/
def upt (l : List Nat) (m i : Nat) : Value := .int .u64 ((if i < m then l[i]?.getD 0 else 0 : Nat) : Int)
theorem upt_step {l : List Nat} {m : Nat} (j : Nat) : (if j = m then Value.int .u64 ((l[m]?.getD 0 : Nat) : Int) else upt l m j) = upt l (m + 1) j := by
  unfold upt
  by_cases h : j = m
  · subst h
    rw [if_pos rfl, if_pos (by omega)]
  · rw [if_neg h]
    by_cases h2 : j < m
    · rw [if_pos h2, if_pos (by omega)]
    · rw [if_neg h2, if_neg (by omega)]

theorem row_read {w : World} {g : Nat} {t : TypeId} {A : Pm.Abs} (h : w.rowIs g t 8 (upt (rd A) 8)) (hu : U64 A.words) : Pack.Wds w (some ⟨g, 0, none⟩) (rd A) :=
  ⟨rd_u64 hu, by rw [rd_len]; omega, fun j hj => ⟨g, 0, rfl, h.lt, by
    have h8 : j < 8 := by rwa [rd_len] at hj
    rw [Nat.zero_add, h.cell h8]
    unfold upt
    rw [if_pos h8, List.getElem?_eq_getElem hj]
    rfl⟩⟩

theorem zeros_row (w : World) (t : TypeId) (l : List Nat) : (w.alloc (.cells #[.int .u64 0, .int .u64 0, .int .u64 0, .int .u64 0, .int .u64 0, .int .u64 0, .int .u64 0, .int .u64 0] t)).rowIs w.heap.size t 8 (upt l 0) :=
  World.rowIs_alloc w #[.int .u64 0, .int .u64 0, .int .u64 0, .int .u64 0, .int .u64 0, .int .u64 0, .int .u64 0, .int .u64 0] t (upt l 0) (fun i hi => by
    have : i < 8 := hi
    have : i = 0 ∨ i = 1 ∨ i = 2 ∨ i = 3 ∨ i = 4 ∨ i = 5 ∨ i = 6 ∨ i = 7 := by omega
    rcases this with rfl | rfl | rfl | rfl | rfl | rfl | rfl | rfl <;> rfl)

theorem fin_len {n m s : Nat} (h : Geo.may n m s = true) : 48 ≤ Geo.fin n m s := by
  obtain ⟨⟨h1, h2, h3⟩, _⟩ := Geo.may_num h
  have h4 := Geo.bm_bounds h1 h2
  have h5 := Geo.bk_bounds h1 h2
  have h6 := Geo.fin_bounds h1 h2 h3
  have h7 := h3.bounds
  have h8 : 1 * 8 ≤ (n : Int) * ((s : Int) / 8) := Int.mul_le_mul (by omega) (by omega) (by omega) (by omega)
  unfold Geo.fin
  omega

theorem words_yes (w : World) {n m s : Nat} (h : Geo.may n m s = true) : Calls Try.prog 35 #[.agg #[.int .i64 (n : Int), .int .i64 (m : Int), .int .i64 (s : Int)]] w fun r w' => r = .returned (.int .i64 (Geo.fin n m s)) ∧ Below w.heap.size w w' := by
  have := Geo.words_any w n m s
  rw [Geo.iff_yes h] at this
  exact this

theorem frozen_set_other {w : World} {p q : Addr} (h : p.block ≠ q.block) (v : Value) : (w.setCell q v).frozen? p = w.frozen? p := World.frozen?_of_block (w := w) (Below.heap_setCell w q v p.block h)
theorem own_set_other {w : World} {b g i : Nat} {n m s : Int} (h : Own w b n m s) (hg : b ≠ g) (v : Value) : Own (w.setCell ⟨g, i, none⟩ v) b n m s :=
  ⟨⟨by simpa using h.box.lt, (cell_set_other hg _).trans h.box.c0, (cell_set_other hg _).trans h.box.c1, (cell_set_other hg _).trans h.box.c2⟩, fun o => (frozen_set_other hg _).trans (h.f o)⟩

/-- the words that were read up to k, in block g; the answer's own block b; what was there ahead is as it was -/
structure Rs (w : World) (b g k : Nat) (l : List Nat) (wr : World) : Prop where
  row : wr.rowIs g 74 8 (upt l k)
  own : Own wr b 0 0 0
  bg : b ≠ g
  below : Below w.heap.size w wr
  le : w.heap.size ≤ g

theorem Rs.set {w wr : World} {b g k : Nat} {l : List Nat} (h : Rs w b g k l wr) : Rs w b g (k + 1) l (wr.setCell ⟨g, k, none⟩ (.int .u64 ((l[k]?.getD 0 : Nat) : Int))) :=
  ⟨(h.row.set k _).congr (fun j _ => upt_step j), own_set_other h.own h.bg _, h.bg, h.below.setCell h.le _, h.le⟩

section
variable {w : World}
set_option maxHeartbeats 2000000 in
set_option maxRecDepth 100000 in
theorem read_any {B a : Nat} {w0 : World} {A : Pm.Abs} (h : Pm.Ses B w0 w a A) (hu : U64 A.words) :
    Calls Try.prog 16 #[.pointer (some ⟨a, 0, none⟩)] w fun r w' => r = .returned (.tuple #[gv (ron (rd A) A.words.length), .int .i64 (ev (ron (rd A) A.words.length))]) ∧ Below w.heap.size w w' := by
  have H := Lib.hid h
  have HU := Lib.hid hu
  clear h hu
  have HB := Lib.hid ((Below.refl w.heap.size w).alloc (Nat.le_refl _) (.cells #[.int .i64 0, .int .i64 0, .int .i64 0] 24))
  have HX := Lib.hid (owned w 0 0 0 24)
  have HZ := Lib.hid (World.size_alloc w (.cells #[.int .i64 0, .int .i64 0, .int .i64 0] 24))
  go_enter Try.func16, Try.ntmps16
  go_wp2
  generalize w.alloc (.cells #[.int .i64 0, .int .i64 0, .int .i64 0] 24) = W at *
  have hrow := zeros_row W 74 (rd A)
  rw [HZ.out] at hrow
  have hba := (Below.refl W.heap.size W).alloc (Nat.le_refl _) (.cells #[.int .u64 0, .int .u64 0, .int .u64 0, .int .u64 0, .int .u64 0, .int .u64 0, .int .u64 0, .int .u64 0] 74)
  have HR := Lib.hid (show Rs w w.heap.size (w.heap.size + 1) 0 (rd A) _ from ⟨hrow, HX.out.keep hba, by omega, HB.out.trans (hba.mono HB.out.size), by omega⟩)
  clear hrow hba HX HB HZ
  generalize W.alloc (.cells #[.int .u64 0, .int .u64 0, .int .u64 0, .int .u64 0, .int .u64 0, .int .u64 0, .int .u64 0, .int .u64 0] 74) = W1 at *
  clear W
  go_loopw [8] (fun i wr => ∃ (k : Nat), k ≤ 8 ∧ i = .int .i64 (k : Int) ∧ Rs w w.heap.size (w.heap.size + 1) k (rd A) wr) (fun i _ => 8 - (intOf i).toNat)
  case atStart => exact ⟨0, Nat.zero_le _, rfl, HR.out⟩
  case round =>
    obtain ⟨k, hk, rfl, hrs⟩ := hrel
    have HS := Lib.hid hrs
    clear hrs HR
    by_cases hlt : k < 8
    · have HC := Lib.hid (load_any (ses_keep H.out HS.out.below) HU.out k hlt)
      have hi0 : (0 : Int) ≤ (k : Int) := by omega
      have hi1 : (k : Int) < 8 := by omega
      have hrc := HS.out.row.cell hlt
      have hrf := HS.out.row.frozen k
      have HS2 := Lib.hid HS.out.set
      generalize (rd A)[k]?.getD 0 = x at *
      go_wp2_with fail
      refine HC.out.mono ?_
      rintro e w' ⟨rfl, rfl⟩
      go_wp2
      refine ⟨⟨k + 1, by omega, by go_num, HS2.out⟩, by simp [intOf]; omega⟩
    · obtain rfl : k = 8 := by omega
      have hdc := decode_any (some ⟨w.heap.size + 1, 0, none⟩) 8 (rd A) (row_read HS.out.row HU.out)
      rw [rd_len] at hdc
      cases ho : dec (rd A) with
      | none =>
        rw [ho] at hdc
        simp only [gv, ev] at hdc
        have HD := Lib.hid hdc
        have HN := Lib.hid (show ron (rd A) A.words.length = none by unfold ron; rw [ho])
        clear hdc ho
        go_wp2_with fail
        refine HD.out.mono ?_
        rintro e w1 ⟨rfl, hb⟩
        have hb0 := hb.alloc hb.size (.cells #[.int .i64 0, .int .i64 0, .int .i64 0] 24)
        have HX1 := Lib.hid (HS.out.own.keep hb)
        have HB1 := Lib.hid (HS.out.below.trans (hb0.mono HS.out.below.size))
        have HB0 := Lib.hid (HS.out.below.trans (hb.mono HS.out.below.size))
        clear hb hb0 HS HD
        have hlt1 : w.heap.size < w1.heap.size := HX1.out.box.lt
        have hc0 := HX1.out.box.c0
        have hc1 := HX1.out.box.c1
        have hc2 := HX1.out.box.c2
        have hf0 := HX1.out.f 0
        have hf1 := HX1.out.f 1
        have hf2 := HX1.out.f 2
        go_wp2
        rw [HN.out]
        refine bodyPost_ret (v := .tuple #[gv none, .int .i64 (ev none)]) ?_ rfl ⟨rfl, ?_⟩
        · simp [results, Try.results16, go_sem, gv, ev, hc0, hc1, hc2, hlt1]
        · first
          | exact ((HB1.out.setCell (Nat.le_refl _) _).setCell (Nat.le_refl _) _).setCell (Nat.le_refl _) _
          | exact (((HB0.out.setCell (Nat.le_refl _) _).setCell (Nat.le_refl _) _).setCell (Nat.le_refl _) _).alloc (by have := HB0.out.size; simpa using this) _
      | some q =>
        obtain ⟨n, m, s⟩ := q
        have hms := dec_some ho
        rw [ho] at hdc
        simp only [gv, ev] at hdc
        have HD := Lib.hid hdc
        have HW := Lib.hid (fun w => words_yes w hms.1)
        have HM := Lib.hid hms.1
        have HO := Lib.hid ho
        clear hdc ho hms
        go_wp2_with fail
        refine HD.out.mono ?_
        rintro e w1 ⟨rfl, hb⟩
        have hb0 := hb.alloc hb.size (.cells #[.int .i64 (n : Int), .int .i64 (m : Int), .int .i64 (s : Int)] 24)
        have HX1 := Lib.hid (HS.out.own.keep hb0)
        have HB1 := Lib.hid (HS.out.below.trans (hb0.mono HS.out.below.size))
        have HG1 := Lib.hid (Geo.boxed w1 n m s 24)
        clear hb hb0 HS HD
        go_wp2_with fail
        generalize w1.alloc (.cells #[.int .i64 (n : Int), .int .i64 (m : Int), .int .i64 (s : Int)] 24) = w2 at *
        generalize w1.heap.size = k1 at *
        refine (HW.out _).mono ?_
        rintro e w3 ⟨rfl, hb⟩
        have HX3 := Lib.hid (HX1.out.keep hb)
        have HB3 := Lib.hid (HB1.out.trans (hb.mono HB1.out.size))
        have HG3 := Lib.hid (HG1.out.keep hb)
        have HL := Lib.hid (Pm.ses_len (ses_keep H.out HB3.out))
        clear hb HX1 HB1 HG1 HW
        go_wp2_with fail
        refine HL.out.mono ?_
        rintro e w' ⟨rfl, rfl⟩
        have hc0 := HX3.out.box.c0
        have hc1 := HX3.out.box.c1
        have hc2 := HX3.out.box.c2
        have hf0 := HX3.out.f 0
        have hf1 := HX3.out.f 1
        have hf2 := HX3.out.f 2
        have hg0 := HG3.out.c0
        have hg1 := HG3.out.c1
        have hg2 := HG3.out.c2
        generalize hfin : Geo.fin (n : Int) (m : Int) (s : Int) = F at *
        by_cases hFL : F = (A.words.length : Int)
        · have HN := Lib.hid (show ron (rd A) A.words.length = some (n, m, s) by unfold ron; rw [HO.out]; simp only; rw [hfin, if_pos hFL])
          rw [hFL]
          clear hfin hFL
          go_wp2
          rw [HN.out]
          refine bodyPost_ret (v := .tuple #[gv (some (n, m, s)), .int .i64 (ev (some (n, m, s)))]) ?_ rfl ⟨rfl, ?_⟩
          · simp [results, Try.results16, go_sem, gv, ev, hc0, hc1, hc2]
          · exact ((HB3.out.setCell (Nat.le_refl _) _).setCell (Nat.le_refl _) _).setCell (Nat.le_refl _) _
        · have HN := Lib.hid (show ron (rd A) A.words.length = none by unfold ron; rw [HO.out]; simp only; rw [hfin, if_neg hFL])
          clear hfin
          go_wp2
          rw [HN.out]
          refine bodyPost_ret (v := .tuple #[gv none, .int .i64 (ev none)]) ?_ rfl ⟨rfl, ?_⟩
          · simp [results, Try.results16, go_sem, gv, ev, hc0, hc1, hc2]
          · exact ((HB3.out.setCell (Nat.le_refl _) _).setCell (Nat.le_refl _) _).setCell (Nat.le_refl _) _
end
end Sup
end Go.Proofs.Ythfkbfbchoekjaa
