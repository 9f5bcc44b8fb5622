/- The acts as they lie in memory, and whether they are few. -/
import Derived.Test.YtlcjnmoicjgaiaaPmSes
namespace Go.Proofs.Ytlcjnmoicjgaiaa
open Go.RowKit Go.MapKept
namespace Pm

/-- an act's values -/
structure ActV where
  k : Int
  w : Int
  x : Int
  c : Option Addr
  n : Nat
  cap : Nat

/-- act i lies at b, o -/
structure ActAt (w : World) (b o : Nat) (v : ActV) : Prop where
  c0 : w.cell? ⟨b, o, none⟩ = some (.int .u8 v.k)
  c1 : w.cell? ⟨b, o + 1, none⟩ = some (.int .i64 v.w)
  c2 : w.cell? ⟨b, o + 2, none⟩ = some (.int .u64 v.x)
  c3 : w.cell? ⟨b, o + 3, none⟩ = some (.slice v.c v.n v.cap)
  k0 : 0 ≤ v.k
  k1 : v.k < 256

def Acts (w : World) (B : Nat) (A : Option Addr) (n : Nat) (f : Nat → ActV) : Prop :=
  n ≤ 9223372036854775807 ∧ ∀ i, i < n → ∃ b o, A = some ⟨b, o, none⟩ ∧ b < B ∧ ActAt w b (o + i * 4) (f i) ∧ (f i).n ≤ 9223372036854775807

/-- few's answer -/
def FewAns (w : World) (n : Nat) (r : Ending) (w' : World) : Prop := ∃ b, r = .returned (.bool b) ∧ (b = true → n ≤ 60) ∧ Off (fun _ => False) w w'

section
variable {w : World}

set_option maxHeartbeats 1600000 in
set_option maxRecDepth 100000 in
theorem few_any (A : Option Addr) (n c : Nat) (f : Nat → ActV) (h : Acts w w.heap.size A n f) : Calls Try.prog 7 #[.slice A n c] w (FewAns w n) := by
  have hn := h.1
  have H := Lib.hid h
  clear h
  go_enter Try.func7, Try.ntmps7
  go_wp2
  go_loopw [7] (fun i wr => ∃ m : Nat, m ≤ n ∧ i = .int .i64 (m : Int) ∧ Off (fun _ => False) w wr) (fun i _ => n - (intOf i).toNat)
  case atStart => exact ⟨0, Nat.zero_le _, rfl, Off.refl _ _⟩
  case round =>
    obtain ⟨m, hm, rfl, hoff⟩ := hrel
    by_cases hlt : m < n
    · obtain ⟨b, o, rfl, hb, ha, hcn⟩ := H.out.2 m hlt
      have hk : ∀ j, wr.cell? ⟨b, j, none⟩ = w.cell? ⟨b, j, none⟩ := fun j => World.cell?_of_block (w := w) (hoff.block b hb id)
      have a0 := (hk _).trans ha.c0
      have a1 := (hk _).trans ha.c1
      have a2 := (hk _).trans ha.c2
      have a3 := (hk _).trans ha.c3
      have HO := Lib.hid hoff
      clear hk hoff ha
      go_wp2
      · go_ret
        exact ⟨false, rfl, (fun h => by cases h), HO.out.alloc _⟩
      · exact ⟨⟨m + 1, by omega, by go_num, HO.out.alloc _⟩, by simp [intOf]; omega⟩
    · have HO := Lib.hid hoff
      clear hoff
      go_wp2
      go_ret
      exact ⟨_, rfl, (fun h => by simp at h; omega), HO.out⟩
end
end Pm
end Go.Proofs.Ytlcjnmoicjgaiaa
