/- Words' bytes, and the program's sums of them. -/
import Derived.Test.YtamkelcgalfkcaaCrcLives
import Derived.Test.YtamkelcgalfkcaaCrcRef
namespace Go.Proofs.Ytamkelcgalfkcaa
open Go.RowKit Go.MapKept
namespace Crc

/-- a word's bytes, the lowest first -/
def wb (x : Nat) : List Nat := (List.range 8).map fun k => x / 256 ^ k % 256

theorem wb_len (x : Nat) : (wb x).length = 8 := by simp [wb]
theorem wb_get {x k : Nat} (h : k < (wb x).length) : (wb x)[k] = x / 256 ^ k % 256 := by simp [wb]
theorem wb_byt (x : Nat) : Byt (wb x) := by
  intro b hb
  obtain ⟨k, _, rfl⟩ := List.mem_map.1 hb
  exact Nat.mod_lt _ (by omega)

/-- these words lie at A -/
structure Wds (w : World) (A : Option Addr) (l : List Nat) : Prop where
  u64 : ∀ x ∈ l, x < 18446744073709551616
  len : l.length ≤ 9223372036854775807
  at' : ∀ j (h : j < l.length), ∃ b o, A = some ⟨b, o, none⟩ ∧ b < w.heap.size ∧ w.cell? ⟨b, o + j, none⟩ = some (.int .u64 (l[j] : Int))

theorem Wds.keep {w w' : World} {A : Option Addr} {l : List Nat} (h : Wds w A l) (hb : Below w.heap.size w w') : Wds w' A l :=
  ⟨h.u64, h.len, fun j hj => by
    obtain ⟨b, o, e, hlt, hc⟩ := h.at' j hj
    exact ⟨b, o, e, Nat.lt_of_lt_of_le hlt hb.size, (hb.cell (p := ⟨b, o + j, none⟩) hlt).trans hc⟩⟩

def wflat (l : List Nat) : List Nat := l.flatMap wb
theorem wflat_take {l : List Nat} {m : Nat} (h : m < l.length) : wflat (l.take (m + 1)) = wflat (l.take m) ++ wb l[m] := by
  unfold wflat
  rw [List.take_succ_eq_append_getElem h, List.flatMap_append]
  simp
theorem wflat_byt (l : List Nat) : Byt (wflat l) := by
  intro b hb
  obtain ⟨q, _, hb⟩ := List.mem_flatMap.1 hb
  exact wb_byt q b hb

theorem wordByte_any (w : World) (x k : Nat) (_hx : x < 18446744073709551616) (hk : k < 8) :
    Calls Try.prog 31 #[.int .u64 (x : Int), .int .i64 (k : Int)] w fun e w' => e = .returned (.int .u8 (x / 256 ^ k % 256 : Nat)) ∧ w = w' := by
  have e : x / 256 ^ k % 256 = x / 2 ^ (k * 8) % 256 := by
    rw [Nat.mul_comm k 8, Nat.pow_mul]
  have HE := Lib.hid e
  clear e
  go_enter Try.func31, Try.ntmps31
  go_wp2
  go_ret
  refine ⟨?_, rfl⟩
  rw [HE.out]
  simp

section
variable {w : World}
set_option maxHeartbeats 1600000 in
set_option maxRecDepth 100000 in
theorem words32_any (A : Option Addr) (c : Nat) (l : List Nat) (h : Wds w A l) :
    Calls Try.prog 19 #[.slice A l.length c] w fun e w' => e = .returned (.int .u32 (S32 (wflat l) : Nat)) ∧ w = w' := by
  have hn := h.len
  have H := Lib.hid h
  clear h
  have HN := Lib.hid (fun r b hr hb => next32_any w r b hr hb)
  have HW := Lib.hid (fun x k hx hk => wordByte_any w x k hx hk)
  go_enter Try.func19, Try.ntmps19
  go_wp2
  go_loopw [3, 9] (fun s i wr => ∃ m : Nat, m ≤ l.length ∧ i = .int .i64 (m : Int) ∧ s = .int .u32 ((sm P32 4294967295 (wflat (l.take m)) : Nat) : Int) ∧ w = wr) (fun _ i _ => l.length - (intOf i).toNat)
  case atStart => exact ⟨0, Nat.zero_le _, rfl, rfl, rfl⟩
  case round =>
    obtain ⟨m, hm, rfl, rfl, rfl⟩ := hrel
    by_cases hlt : m < l.length
    · obtain ⟨b, o, rfl, hb, hcell⟩ := H.out.at' m hlt
      have hx := H.out.u64 _ (List.getElem_mem hlt)
      have hr0 : sm P32 4294967295 (wflat (l.take m)) < 4294967296 := sm32_lt _ _ (by omega) (wflat_byt _)
      have HR := Lib.hid (show sm P32 4294967295 (wflat (l.take (m + 1))) = sm P32 (sm P32 4294967295 (wflat (l.take m))) (wb l[m]) by rw [wflat_take hlt, sm_append])
      generalize l[m] = x at *
      generalize sm P32 4294967295 (wflat (l.take m)) = r0 at *
      go_wp2
      go_loopw [3, 13] (fun s i wr => ∃ j : Nat, j ≤ 8 ∧ i = .int .i64 (j : Int) ∧ s = .int .u32 ((sm P32 r0 ((wb x).take j) : Nat) : Int) ∧ w = wr) (fun _ i _ => 8 - (intOf i).toNat)
      case atStart => exact ⟨0, Nat.zero_le _, rfl, rfl, rfl⟩
      case round =>
        obtain ⟨j, hj, rfl, rfl, rfl⟩ := hrel
        by_cases hjl : j < 8
        · have hjw : j < (wb x).length := by rw [wb_len]; exact hjl
          have hrj : sm P32 r0 ((wb x).take j) < 4294967296 := sm32_lt _ _ hr0 ((wb_byt x).take j)
          have hby : x / 256 ^ j % 256 < 256 := Nat.mod_lt _ (by omega)
          have hnx := HN.out _ _ hrj hby
          have e : sm P32 r0 ((wb x).take (j + 1)) = nx P32 (sm P32 r0 ((wb x).take j)) (x / 256 ^ j % 256) := by rw [sm_take hjw, wb_get]
          rw [← e] at hnx
          have HX := Lib.hid hnx
          have HY := Lib.hid (HW.out x j hx hjl)
          clear hnx e hby
          go_wp2_with fail
          refine HY.out.mono ?_
          generalize x / 256 ^ j % 256 = y at *
          rintro e w' ⟨rfl, rfl⟩
          go_wp2_with fail
          refine HX.out.mono ?_
          rintro e w' ⟨rfl, rfl⟩
          go_wp2
          exact ⟨⟨j + 1, by omega, by go_num, rfl, trivial⟩, by simp [intOf]; omega⟩
        · obtain rfl : j = 8 := by omega
          rw [List.take_of_length_le (by rw [wb_len]; exact Nat.le_refl _), ← HR.out]
          go_wp2
          exact ⟨⟨m + 1, by omega, by go_num, rfl, trivial⟩, by simp [intOf]; omega⟩
    · obtain rfl : m = l.length := by omega
      rw [List.take_length]
      have hi := inv32 _ (sm32_lt (wflat l) 4294967295 (by omega) (wflat_byt l))
      go_wp2
      go_ret
      exact ⟨rfl, rfl⟩

end
end Crc
end Go.Proofs.Ytamkelcgalfkcaa
