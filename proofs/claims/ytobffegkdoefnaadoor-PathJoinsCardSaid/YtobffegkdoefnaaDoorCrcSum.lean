/- Bytes and parts as they lie in memory, and the program's sums of them. -/
import Derived.Test.YtobffegkdoefnaaDoorCrcStep
namespace Go.Proofs.YtobffegkdoefnaaDoor
open Go.RowKit Go.MapKept
namespace Crc

/-- these bytes lie at A -/
structure Bts (w : World) (A : Option Addr) (l : List Nat) : Prop where
  byt : Byt l
  len : l.length ≤ 9223372036854775807
  at' : ∀ j (h : j < l.length), ∃ b o, A = some ⟨b, o, none⟩ ∧ b < w.heap.size ∧ w.cell? ⟨b, o + j, none⟩ = some (.int .u8 (l[j] : Int))

/-- a part -/
structure Prt where
  a : Option Addr
  c : Nat
  l : List Nat

/-- these parts lie at A -/
structure Pts (w : World) (A : Option Addr) (ps : List Prt) : Prop where
  len : ps.length ≤ 9223372036854775807
  at' : ∀ i (h : i < ps.length), ∃ b o, A = some ⟨b, o, none⟩ ∧ b < w.heap.size ∧ w.cell? ⟨b, o + i, none⟩ = some (.slice ps[i].a ps[i].l.length ps[i].c)
  bts : ∀ i (h : i < ps.length), Bts w ps[i].a ps[i].l

/-- all bytes, one part behind the other -/
def flat (ps : List Prt) : List Nat := ps.flatMap Prt.l

theorem flat_take {ps : List Prt} {m : Nat} (h : m < ps.length) : flat (ps.take (m + 1)) = flat (ps.take m) ++ ps[m].l := by
  unfold flat
  rw [List.take_succ_eq_append_getElem h, List.flatMap_append]
  simp

theorem Pts.flat_byt {w : World} {A : Option Addr} {ps : List Prt} (h : Pts w A ps) : Byt (flat ps) := by
  intro b hb
  obtain ⟨q, hq, hb⟩ := List.mem_flatMap.1 hb
  obtain ⟨i, hi, rfl⟩ := List.getElem_of_mem hq
  exact (h.bts i hi).byt b hb

theorem Byt.take {l : List Nat} (h : Byt l) (n : Nat) : Byt (l.take n) := fun b hb => h b (List.mem_of_mem_take hb)
theorem Byt.append {l m : List Nat} (h : Byt l) (g : Byt m) : Byt (l ++ m) := fun b hb => (List.mem_append.1 hb).elim (h b) (g b)
theorem Byt.rev8 (l : List Nat) : Byt (l.map (rev 8)) := by
  intro b hb
  obtain ⟨x, _, rfl⟩ := List.mem_map.1 hb
  exact rev_lt 8 x

theorem nx32_lt {r b : Nat} (hr : r < 4294967296) (hb : b < 256) : nx P32 r b < 4294967296 := it32_lt (Nat.xor_lt_two_pow (n := 32) hr (by omega)) 8
theorem nx16_lt {r b : Nat} (hr : r < 65536) (hb : b < 256) : nx P16 r b < 65536 := it16_lt (Nat.xor_lt_two_pow (n := 16) hr (by omega)) 8

theorem sm32_lt (l : List Nat) : ∀ r, r < 4294967296 → Byt l → sm P32 r l < 4294967296 := by
  induction l with
  | nil => exact fun _ h _ => h
  | cons b l ih => exact fun r h hl => ih _ (nx32_lt h hl.cons.1) hl.cons.2
theorem sm16_lt (l : List Nat) : ∀ r, r < 65536 → Byt l → sm P16 r l < 65536 := by
  induction l with
  | nil => exact fun _ h _ => h
  | cons b l ih => exact fun r h hl => ih _ (nx16_lt h hl.cons.1) hl.cons.2

theorem sm_take {p r : Nat} {l : List Nat} {j : Nat} (h : j < l.length) : sm p r (l.take (j + 1)) = nx p (sm p r (l.take j)) l[j] := by
  rw [List.take_succ_eq_append_getElem h, sm_append]
  rfl

/-- the sums, as the document says them -/
def S32 (l : List Nat) : Nat := 4294967295 - sm P32 4294967295 l
def T16 (l : List Nat) : Nat := sm P16 65535 (l.map (rev 8))
def S16 (l : List Nat) : Nat := rev 16 (T16 l)

theorem inv32 (x : Nat) (hx : x < 4294967296) : bits .xor .u32 IntKind.u32.max (x : Int) = ((4294967295 - x : Nat) : Int) := by
  have h := u32_xor_nat 4294967295 x (by omega) hx
  have e : 4294967295 ^^^ x = 4294967295 - x := by
    apply Nat.eq_of_testBit_eq
    intro i
    have e1 : 4294967295 - x = 2 ^ 32 - (x + 1) := by omega
    have e2 : (4294967295 : Nat) = 2 ^ 32 - 1 := rfl
    rw [Nat.testBit_xor, e1, Nat.testBit_two_pow_sub_succ (show x < 2 ^ 32 from hx), e2, Nat.testBit_two_pow_sub_one]
    by_cases hi : i < 32
    · simp [hi]
    · have : x.testBit i = false := Nat.testBit_lt_two_pow (Nat.lt_of_lt_of_le (show x < 2 ^ 32 from hx) (Nat.pow_le_pow_right (n := 2) (by omega) (by omega : 32 ≤ i)))
      simp [hi, this]
  rw [e] at h
  exact h

section
variable {w : World}
set_option maxHeartbeats 1600000 in
set_option maxRecDepth 100000 in
theorem sum32_any (A : Option Addr) (c : Nat) (ps : List Prt) (h : Pts w A ps) :
    Calls Tryd.prog 36 #[.slice A ps.length c] w fun e w' => e = .returned (.int .u32 (S32 (flat ps) : Nat)) ∧ w = w' := by
  have hn := h.len
  have HF := Lib.hid h.flat_byt
  have H := Lib.hid h
  clear h
  have HN := Lib.hid (fun r b hr hb => next32_any w r b hr hb)
  go_enter Tryd.func36, Tryd.ntmps36
  go_wp2
  go_loopw [3, 10] (fun s i wr => ∃ m : Nat, m ≤ ps.length ∧ i = .int .i64 (m : Int) ∧ s = .int .u32 ((sm P32 4294967295 (flat (ps.take m)) : Nat) : Int) ∧ w = wr) (fun _ i _ => ps.length - (intOf i).toNat)
  case atStart => exact ⟨0, Nat.zero_le _, rfl, rfl, rfl⟩
  case round =>
    obtain ⟨m, hm, rfl, rfl, rfl⟩ := hrel
    by_cases hlt : m < ps.length
    · obtain ⟨b, o, rfl, hb, hcell⟩ := H.out.at' m hlt
      have hbt := H.out.bts m hlt
      have hbl := hbt.len
      have HB := Lib.hid hbt
      have hr0 : sm P32 4294967295 (flat (ps.take m)) < 4294967296 := sm32_lt _ _ (by omega) (fun x hx => by
        obtain ⟨q, hq, hx⟩ := List.mem_flatMap.1 hx
        obtain ⟨i, hi, rfl⟩ := List.getElem_of_mem (List.mem_of_mem_take hq)
        exact (H.out.bts i hi).byt x hx)
      have HR := Lib.hid (show sm P32 4294967295 (flat (ps.take (m + 1))) = sm P32 (sm P32 4294967295 (flat (ps.take m))) (ps[m].l) by rw [flat_take hlt, sm_append])
      generalize ps[m] = q at *
      generalize sm P32 4294967295 (flat (ps.take m)) = r0 at *
      obtain ⟨qa, qc, ql⟩ := q
      simp only at hcell hbl HB HR
      clear hbt
      go_wp2
      go_loopw [3, 16] (fun s i wr => ∃ j : Nat, j ≤ ql.length ∧ i = .int .i64 (j : Int) ∧ s = .int .u32 ((sm P32 r0 (ql.take j) : Nat) : Int) ∧ w = wr) (fun _ i _ => ql.length - (intOf i).toNat)
      case atStart => exact ⟨0, Nat.zero_le _, rfl, rfl, rfl⟩
      case round =>
        obtain ⟨j, hj, rfl, rfl, rfl⟩ := hrel
        by_cases hjl : j < ql.length
        · obtain ⟨b', o', rfl, hb', hc'⟩ := HB.out.at' j hjl
          have hbb : ql[j] < 256 := HB.out.byt _ (List.getElem_mem hjl)
          have hrj : sm P32 r0 (ql.take j) < 4294967296 := sm32_lt _ _ hr0 (HB.out.byt.take j)
          have hnx := HN.out _ _ hrj hbb
          have e : sm P32 r0 (ql.take (j + 1)) = nx P32 (sm P32 r0 (ql.take j)) (ql[j]) := sm_take hjl
          rw [← e] at hnx
          have HX := Lib.hid hnx
          clear hnx e
          go_wp2_with fail
          refine HX.out.mono ?_
          rintro e w' ⟨rfl, rfl⟩
          go_wp2
          exact ⟨⟨j + 1, by omega, by go_num, rfl, trivial⟩, by simp [intOf]; omega⟩
        · obtain rfl : j = ql.length := by omega
          rw [List.take_length, ← HR.out]
          go_wp2
          exact ⟨⟨m + 1, by omega, by go_num, rfl, trivial⟩, by simp [intOf]; omega⟩
    · obtain rfl : m = ps.length := by omega
      rw [List.take_length]
      have hi := inv32 _ (sm32_lt (flat ps) 4294967295 (by omega) HF.out)
      go_wp2
      go_ret
      exact ⟨rfl, rfl⟩

set_option maxHeartbeats 1600000 in
set_option maxRecDepth 100000 in
theorem sum16_gen (f g : Nat → Nat) (hf : f 65535 = 65535) (hg : ∀ b, g b < 256) (hN : ∀ r b : Nat, r < 65536 → b < 256 → Calls Tryd.prog 46 #[.int .u16 ((f r : Nat) : Int), .int .u8 (b : Int)] w fun e w' => e = .returned (.int .u16 (f (nx P16 r (g b)) : Nat)) ∧ w = w') (A : Option Addr) (c : Nat) (ps : List Prt) (h : Pts w A ps) :
    Calls Tryd.prog 37 #[.slice A ps.length c] w fun e w' => e = .returned (.int .u16 (f (sm P16 65535 ((flat ps).map g)) : Nat)) ∧ w = w' := by
  have hn := h.len
  have hby : ∀ l : List Nat, Byt (l.map g) := fun l b hb => by obtain ⟨x, _, rfl⟩ := List.mem_map.1 hb; exact hg x
  have HY := Lib.hid hby
  have H := Lib.hid h
  clear h
  have HN := Lib.hid hN
  clear hN hg hby
  go_enter Tryd.func37, Tryd.ntmps37
  go_wp2
  go_loopw [3, 10] (fun s i wr => ∃ m : Nat, m ≤ ps.length ∧ i = .int .i64 (m : Int) ∧ s = .int .u16 ((f (sm P16 65535 ((flat (ps.take m)).map g)) : Nat) : Int) ∧ w = wr) (fun _ i _ => ps.length - (intOf i).toNat)
  case atStart =>
    refine ⟨0, Nat.zero_le _, rfl, ?_, rfl⟩
    rw [List.take_zero]
    show Value.int .u16 65535 = .int .u16 ((f 65535 : Nat) : Int)
    rw [hf]
    rfl
  case round =>
    obtain ⟨m, hm, rfl, rfl, rfl⟩ := hrel
    by_cases hlt : m < ps.length
    · obtain ⟨b, o, rfl, hb, hcell⟩ := H.out.at' m hlt
      have hbt := H.out.bts m hlt
      have hbl := hbt.len
      have HB := Lib.hid hbt
      have hr0 : sm P16 65535 ((flat (ps.take m)).map g) < 65536 := sm16_lt _ _ (by omega) (HY.out _)
      have HR := Lib.hid (show sm P16 65535 ((flat (ps.take (m + 1))).map g) = sm P16 (sm P16 65535 ((flat (ps.take m)).map g)) ((ps[m].l).map g) by rw [flat_take hlt, List.map_append, sm_append])
      generalize ps[m] = q at *
      generalize sm P16 65535 ((flat (ps.take m)).map g) = r0 at *
      obtain ⟨qa, qc, ql⟩ := q
      simp only at hcell hbl HB HR
      clear hbt
      go_wp2
      go_loopw [3, 16] (fun s i wr => ∃ j : Nat, j ≤ ql.length ∧ i = .int .i64 (j : Int) ∧ s = .int .u16 ((f (sm P16 r0 ((ql.map g).take j)) : Nat) : Int) ∧ w = wr) (fun _ i _ => ql.length - (intOf i).toNat)
      case atStart => exact ⟨0, Nat.zero_le _, rfl, by rw [List.take_zero]; rfl, rfl⟩
      case round =>
        obtain ⟨j, hj, rfl, rfl, rfl⟩ := hrel
        by_cases hjl : j < ql.length
        · obtain ⟨b', o', rfl, hb', hc'⟩ := HB.out.at' j hjl
          have hbb : ql[j] < 256 := HB.out.byt _ (List.getElem_mem hjl)
          have hrj : sm P16 r0 ((ql.map g).take j) < 65536 := sm16_lt _ _ hr0 ((HY.out _).take j)
          have hnx := HN.out _ _ hrj hbb
          have e : sm P16 r0 ((ql.map g).take (j + 1)) = nx P16 (sm P16 r0 ((ql.map g).take j)) (g ql[j]) := by rw [sm_take (by rw [List.length_map]; exact hjl), List.getElem_map]
          rw [← e] at hnx
          have HX := Lib.hid hnx
          clear hnx e
          go_wp2_with fail
          refine HX.out.mono ?_
          rintro e w' ⟨rfl, rfl⟩
          go_wp2
          exact ⟨⟨j + 1, by omega, by go_num, rfl, trivial⟩, by simp [intOf]; omega⟩
        · obtain rfl : j = ql.length := by omega
          rw [List.take_of_length_le (by rw [List.length_map]; exact Nat.le_refl _), ← HR.out]
          go_wp2
          exact ⟨⟨m + 1, by omega, by go_num, rfl, trivial⟩, by simp [intOf]; omega⟩
    · obtain rfl : m = ps.length := by omega
      rw [List.take_length]
      go_wp2
      go_ret
      exact ⟨rfl, rfl⟩

theorem sum16_any (A : Option Addr) (c : Nat) (ps : List Prt) (h : Pts w A ps) :
    Calls Tryd.prog 37 #[.slice A ps.length c] w fun e w' => e = .returned (.int .u16 (S16 (flat ps) : Nat)) ∧ w = w' :=
  sum16_gen (rev 16) (rev 8) (by decide) (rev_lt 8) (fun r b hr hb => next16_any w r b hr hb) A c ps h
end
end Crc
end Go.Proofs.YtobffegkdoefnaaDoor
