/- Fields as they lie in memory, and the program's word of them. -/
import Derived.Test.YtblibjjnbbleeaaDoorPackStep
namespace Go.Proofs.YtblibjjnbbleeaaDoor
open Go.RowKit Go.MapKept
namespace Pack

/-- these fields lie at A -/
structure Fds (w : World) (A : Option Addr) (l : List Fld) : Prop where
  i64 : ∀ f ∈ l, -9223372036854775808 ≤ f.n ∧ f.n ≤ 9223372036854775807 ∧ f.v < 18446744073709551616
  len : l.length ≤ 9223372036854775807
  at' : ∀ j (h : j < l.length), ∃ b o, A = some ⟨b, o, none⟩ ∧ b < w.heap.size ∧ w.cell? ⟨b, o + j * 2, none⟩ = some (.int .i64 l[j].n) ∧ w.cell? ⟨b, o + j * 2 + 1, none⟩ = some (.int .u64 (l[j].v : Int))

theorem Fds.keep {w w' : World} {A : Option Addr} {l : List Fld} (h : Fds w A l) (hb : Below w.heap.size w w') : Fds w' A l :=
  ⟨h.i64, h.len, fun j hj => by
    obtain ⟨b, o, e, hlt, hc, hd⟩ := h.at' j hj
    exact ⟨b, o, e, Nat.lt_of_lt_of_le hlt hb.size, (hb.cell (p := ⟨b, o + j * 2, none⟩) hlt).trans hc, (hb.cell (p := ⟨b, o + j * 2 + 1, none⟩) hlt).trans hd⟩⟩

theorem or_field (x v t q : Nat) (hx : x < 2 ^ t) (hv : v < 2 ^ q) (ht : t + q ≤ 64) : bits .or .u64 (x : Int) (IntKind.wrap .u64 ((v : Int) * 2 ^ t)) = ((x + v * 2 ^ t : Nat) : Int) := by
  have hp : 0 < 2 ^ t := Nat.two_pow_pos _
  have hb : v * 2 ^ t < 18446744073709551616 := by
    have h1 : v * 2 ^ t < 2 ^ q * 2 ^ t := Nat.mul_lt_mul_of_pos_right hv hp
    rw [← Nat.pow_add] at h1
    exact Nat.lt_of_lt_of_le h1 (Nat.pow_le_pow_right (n := 2) (j := 64) (by omega) (by omega))
  have hxl : x < 18446744073709551616 := Nat.lt_of_lt_of_le hx (Nat.pow_le_pow_right (n := 2) (j := 64) (by omega) (by omega))
  have e : (v : Int) * 2 ^ t = ((v * 2 ^ t : Nat) : Int) := by simp
  have e2 : IntKind.wrap .u64 ((v * 2 ^ t : Nat) : Int) = ((v * 2 ^ t : Nat) : Int) := by rw [IntKind.wrap_u64]; omega
  rw [e, e2, u64_or_nat _ _ hxl hb]
  have h3 := Nat.shiftLeft_add_eq_or_of_lt hx v
  rw [Nat.shiftLeft_eq] at h3
  rw [Nat.or_comm, ← h3, Nat.add_comm]

section
variable {w : World}
set_option maxHeartbeats 1600000 in
set_option maxRecDepth 100000 in
theorem pack_any (A : Option Addr) (c : Nat) (l : List Fld) (h : Fds w A l) :
    Calls Tryd.prog 49 #[.slice A l.length c] w fun e w' => e = .returned (.tuple #[.int .u64 (((pk 0 0 l).map Prod.fst).getD 0 : Nat), .bool (pk 0 0 l).isSome]) ∧ Below w.heap.size w w' := by
  have hn := h.len
  have H := Lib.hid h
  clear h
  have HF := Lib.hid (fun w n t h1 h2 ht => fits_any w n t h1 h2 ht)
  go_enter Tryd.func49, Tryd.ntmps49
  go_wp2
  go_loopw [4, 5, 10] (fun s a i wr => ∃ (m x t : Nat), m ≤ l.length ∧ i = .int .i64 (m : Int) ∧ s = .int .u64 (x : Int) ∧ a = .int .i64 (t : Int) ∧ pk 0 0 (l.take m) = some (x, t) ∧ Below w.heap.size w wr) (fun _ _ i _ => l.length - (intOf i).toNat)
  case atStart => exact ⟨0, 0, 0, Nat.zero_le _, rfl, rfl, rfl, rfl, Below.refl _ _⟩
  case round =>
    obtain ⟨m, x, t, hm, rfl, rfl, rfl, ht, hbel⟩ := hrel
    have hxt := pk_lt ht
    by_cases hlt : m < l.length
    · obtain ⟨b, o, rfl, hb, hcell0, hcell1⟩ := H.out.at' m hlt
      have hx := H.out.i64 _ (List.getElem_mem hlt)
      have HS := Lib.hid (pk_step hlt ht)
      have hcell0 := (hbel.cell (p := ⟨b, o + m * 2, none⟩) hb).trans hcell0
      have hcell1 := (hbel.cell (p := ⟨b, o + m * 2 + 1, none⟩) hb).trans hcell1
      generalize l[m] = f at *
      obtain ⟨n, v⟩ := f
      simp only at hx hcell0 hcell1 HS
      clear ht
      go_wp2_with fail
      refine (HF.out _ n t hx.1 hx.2.1 hxt.2).mono ?_
      rintro e w' ⟨rfl, rfl⟩
      have hbel2 := hbel.alloc hbel.size (.cells #[Value.int .i64 n, Value.int .u64 (v : Int)] 83)
      have HB := Lib.hid hbel2
      clear hbel2
      by_cases hc : 1 ≤ n ∧ n ≤ 64 - (t : Int)
      · obtain ⟨q, rfl⟩ := Int.eq_ofNat_of_zero_le (show 0 ≤ n by omega)
        rw [decide_eq_true hc]
        by_cases hv : v < 2 ^ q
        · have hs := HS.out
          rw [if_pos ⟨hc, by simpa using hv⟩] at hs
          have HS2 := Lib.hid hs
          clear hs
          have hd : (v : Int) / 2 ^ q = 0 := by
            have : (v : Int) / 2 ^ q = ((v / 2 ^ q : Nat) : Int) := by simp
            rw [this, Nat.div_eq_of_lt hv]
            rfl
          have ho := or_field x v t q hxt.1 hv (by omega)
          go_wp2
          refine ⟨⟨m + 1, x + v * 2 ^ t, t + q, by omega, by go_num, by simp, by go_num, ?_, HB.out⟩, by simp [intOf]; omega⟩
          simpa using HS2.out
        · have hs := HS.out
          rw [if_neg (fun h => hv (by simpa using h.2))] at hs
          have HS2 := Lib.hid (pk_none hs)
          clear hs
          have hp : 0 < 2 ^ q := Nat.two_pow_pos _
          have hd : (v : Int) / 2 ^ q = ((v / 2 ^ q : Nat) : Int) := by simp
          have hd0 : 0 < v / 2 ^ q := Nat.div_pos (by omega) hp
          generalize v / 2 ^ q = d at *
          go_wp2
          go_ret2
          exact ⟨by rw [HS2.out]; rfl, HB.out⟩
      · have hs := HS.out
        rw [if_neg (fun h => hc h.1)] at hs
        have HS2 := Lib.hid (pk_none hs)
        clear hs
        rw [decide_eq_false hc]
        go_wp2
        go_ret2
        exact ⟨by rw [HS2.out]; rfl, HB.out⟩
    · obtain rfl : m = l.length := by omega
      rw [List.take_length] at ht
      have HT := Lib.hid ht
      have HB := Lib.hid hbel
      clear ht hbel
      go_wp2
      go_ret2
      exact ⟨by rw [HT.out]; rfl, HB.out⟩
end
end Pack
end Go.Proofs.YtblibjjnbbleeaaDoor
