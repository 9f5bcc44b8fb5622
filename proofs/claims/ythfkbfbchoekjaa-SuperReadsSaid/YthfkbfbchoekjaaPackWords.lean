/- The program's words of bytes, and the document's. -/
import Derived.Test.YthfkbfbchoekjaaPackText
import Derived.RegionTactic
import Derived.ChangeAlike
namespace Go.Proofs.Ythfkbfbchoekjaa
open Go.RowKit Go.MapKept
namespace Pack

/-- a word behind k bytes -/
def cellOf (b : List Nat) (k i : Nat) : Value := .int .u64 ((part b i (min 8 (k - 8 * i)) : Nat) : Int)

theorem cellOf_step {b : List Nat} {k : Nat} (_h : k < b.length) (j : Nat) : (if j = k / 8 then Value.int .u64 ((part b (k / 8) (k % 8) + at0 b k * 256 ^ (k % 8) : Nat) : Int) else cellOf b k j) = cellOf b (k + 1) j := by
  unfold cellOf
  by_cases h : j = k / 8
  · subst h
    have e1 : min 8 (k + 1 - 8 * (k / 8)) = k % 8 + 1 := by omega
    have e2 : 8 * (k / 8) + k % 8 = k := by omega
    rw [if_pos rfl, e1, part, e2]
  · rw [if_neg h]
    have e1 : min 8 (k + 1 - 8 * j) = min 8 (k - 8 * j) := by omega
    rw [e1]

theorem row_words {W : World} {g : Nat} {b : List Nat} (h : W.rowIs g 39 ((b.length + 7) / 8) (cellOf b b.length)) (hb : Byt b) (hn : b.length ≤ 9223372036854775807) : Wds W (some ⟨g, 0, none⟩) (wrds b) :=
  ⟨wrds_u64 hb, by rw [wrds_len]; omega, fun j hj => ⟨g, 0, rfl, h.lt, by
    rw [wrds_get]
    rw [wrds_len] at hj
    rw [Nat.zero_add, h.cell hj]
    unfold cellOf
    by_cases h8 : 8 ≤ b.length - 8 * j
    · rw [Nat.min_eq_left h8]
    · rw [Nat.min_eq_right (by omega)]
      have := part_end (b := b) (i := j) (j := b.length - 8 * j) (by omega) (8 - (b.length - 8 * j))
      rw [← this]
      congr 4
      omega⟩⟩

section
variable {w : World}
set_option maxHeartbeats 1600000 in
set_option maxRecDepth 100000 in
theorem words_any (A : Option Addr) (c : Nat) (l : List Nat) (h : Bts w A l) (hlen : l.length ≤ 1000000000000) :
    Calls Try.prog 22 #[.slice A l.length c] w fun e w' => ∃ (G : Option Addr) (gc : Nat), e = .returned (.slice G (wrds l).length gc) ∧ Wds w' G (wrds l) ∧ Below w.heap.size w w' := by
  have H := Lib.hid h
  clear h
  have HN := Lib.hid (wrds_len l)
  obtain ⟨n, hn⟩ : ∃ n, n = (l.length + 7) / 8 := ⟨_, rfl⟩
  have hmk := run_make_row' (P := Try.prog) 25 39 _ 8 Try.underlying25 u64_info rfl .i64 .i64 n (by omega) (by omega) w
  have hrow : (w.alloc (.cells (madeCells #[.int .u64 0] n) 39)).rowIs w.heap.size 39 n (cellOf l 0) := (World.rowIs_made w (.int .u64 0) n 39).congr (fun i _ => by simp [cellOf, part])
  have hbel : Below w.heap.size w (w.alloc (.cells (madeCells #[.int .u64 0] n) 39)) := (Below.refl _ _).alloc (Nat.le_refl _) _
  have HR := Lib.hid hrow
  have HB := Lib.hid hbel
  generalize w.alloc (.cells (madeCells #[.int .u64 0] n) 39) = w1 at *
  clear hrow hbel
  have hq : ((l.length : Int) + 8 - 1) / 8 = (n : Int) := by omega
  rw [← hq] at hmk
  have HNN := Lib.hid hn
  clear hn hq
  go_enter Try.func22, Try.ntmps22
  go_wp2
  go_loopw [14] (fun i wr => ∃ (k : Nat), k ≤ l.length ∧ i = .int .i64 (k : Int) ∧ wr.rowIs w.heap.size 39 n (cellOf l k) ∧ Below w.heap.size w wr) (fun i _ => l.length - (intOf i).toNat)
  case atStart => exact ⟨0, Nat.zero_le _, rfl, HR.out, HB.out⟩
  case round =>
    obtain ⟨k, hk, rfl, hrow, hbel⟩ := hrel
    have hn := HNN.out
    by_cases hlt : k < l.length
    · obtain ⟨b, o, rfl, hb, hcell⟩ := H.out.at' k hlt
      have hca := (hbel.cell (p := ⟨b, o + k, none⟩) hb).trans hcell
      clear hcell
      have hxb : l[k] < 256 := H.out.byt _ (List.getElem_mem hlt)
      have HS := Lib.hid (cellOf_step hlt)
      rw [at0_get hlt] at HS
      have hdn : k / 8 < n := by omega
      have hc0 := hrow.cell hdn
      have hf0 := hrow.frozen (k / 8)
      have hpl := part_lt H.out.byt (k / 8) (k % 8)
      have hmin : min 8 (k - 8 * (k / 8)) = k % 8 := by omega
      unfold cellOf at hc0
      rw [hmin] at hc0
      generalize part l (k / 8) (k % 8) = y at *
      generalize l[k] = x at *
      have ht : 256 ^ (k % 8) = 2 ^ (k % 8 * 8) := by rw [Nat.mul_comm (k % 8) 8, Nat.pow_mul]
      rw [ht] at hpl HS
      have ho := or_field y x (k % 8 * 8) 8 hpl (by omega) (by omega)
      have HW := Lib.hid hrow
      have HBW := Lib.hid hbel
      clear hrow hbel ht hmin
      have hwd : IntKind.wrap .i64 ((k : Int) / 8) = ((k / 8 : Nat) : Int) := by rw [IntKind.wrap_i64]; omega
      have hwt : IntKind.wrap .i64 ((k : Int) % 8 * 8) = ((k % 8 * 8 : Nat) : Int) := by rw [IntKind.wrap_i64]; omega
      have hwm : (k : Int) % 8 * 8 = ((k % 8 * 8 : Nat) : Int) := by omega
      have he : (k : Int) / 8 = ((k / 8 : Nat) : Int) := rfl
      have hel : ((k / 8 : Nat) : Int) < (n : Int) := by omega
      have hel0 : (0 : Int) ≤ ((k / 8 : Nat) : Int) := by omega
      have hfl : k % 8 * 8 ≤ 56 := by omega
      clear hn hmk
      generalize k % 8 * 8 = T at *
      generalize k / 8 = d at *
      have hwd2 : IntKind.wrap .i64 (d : Int) = (d : Int) := by rw [IntKind.wrap_i64]; omega
      have hwT2 : IntKind.wrap .i64 (T : Int) = (T : Int) := by rw [IntKind.wrap_i64]; omega
      have hT0 : (0 : Int) ≤ (T : Int) := by omega
      have hT1 : (T : Int) < 64 := by omega
      go_wp2
      go_region
      clear hwd hwt hwm he hwd2 hwT2
      go_wp2
      refine ⟨⟨k + 1, by omega, by go_num, ?_, (HBW.out.setCell (p := ⟨w.heap.size, d, none⟩) (Nat.le_refl _) _).drew⟩, by simp [intOf]; omega⟩
      have h2 := (HW.out.set d (.int .u64 ((y + x * 2 ^ T : Nat) : Int))).congr (fun j _ => HS.out j)
      have h3 := h2.drew
      simpa using h3
    · obtain rfl : k = l.length := by omega
      rw [HNN.out] at hrow
      have HW := Lib.hid (row_words hrow H.out.byt (by omega))
      have HBW := Lib.hid hbel
      clear hrow hbel hmk hn
      go_wp2
      go_ret
      refine ⟨_, n, ?_, HW.out, HBW.out⟩
      rw [HN.out, ← HNN.out]
      rfl
end
end Pack
end Go.Proofs.Ythfkbfbchoekjaa
