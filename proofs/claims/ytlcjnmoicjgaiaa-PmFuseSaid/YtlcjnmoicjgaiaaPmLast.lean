/- Lasting, and a crash, of a device that the call made. -/
import Derived.Test.YtlcjnmoicjgaiaaPmCrash
import Derived.Test.YtlcjnmoicjgaiaaPmSes
namespace Go.Proofs.Ytlcjnmoicjgaiaa
open Go.RowKit Go.MapKept
namespace Pm
section
variable {w w0 : World} {a B : Nat} {D : Dev} {A : Abs}

set_option maxHeartbeats 800000 in
set_option maxRecDepth 100000 in
/-- of a word that has nothing pending -/
theorem lasting_none (h : Rep w a D) (k : Nat) (hk : k < D.words.length) (hn : k ∉ D.ents.map Ent.key) : Calls Try.prog 14 #[.pointer (some ⟨a, 0, none⟩), .int .i64 (k : Int)] w fun r w' =>
    r = .returned (.int .u64 D.words[k]) ∧ Off (fun _ => False) w w' := by
  have c5 := h.c5
  have hlt := h.lt
  have hl := run_look_none h.map hn true
  simp only [if_true] at hl
  have hrep : Rep (w.alloc (.cells #[.slice none 0 0, .int .i64 0] 62)) a D := h.keep (fun _ hk => Below.heap_alloc _ _ _ (h.foot_lt hk))
  have HL := Lib.hid (load_yes hrep k hk)
  clear h hn hrep
  go_enter Try.func14, Try.ntmps14
  go_wp2_with (go_at_call 13; refine HL.out.mono ?_; rintro r w' ⟨rfl, rfl⟩)
  go_ret
  exact ⟨rfl, (Off.refl _ _).alloc _⟩

/-- a session behind a call that leaves the device and all else alone -/
theorem Ses.off {w' : World} (h : Ses B w0 w a A) (ho : Off (fun _ => False) w w') : Ses B w0 w' a A := by
  obtain ⟨D, hrep, ha, hok, hb, hf, hz⟩ := h
  exact ⟨D, hrep.keep (fun k hk => ho.block k (hrep.foot_lt hk) id), ha, hok, hb.trans (ho.below hz (fun _ h => h.elim)), hf, Nat.le_trans hz ho.size⟩

theorem ses_lasting (h : Ses B w0 w a A) (k : Nat) (hk : k < A.words.length) (hp : A.pend = []) : Calls Try.prog 14 #[.pointer (some ⟨a, 0, none⟩), .int .i64 (k : Int)] w fun r w' =>
    r = .returned (.int .u64 A.words[k]) ∧ Off (fun _ => False) w w' := by
  obtain ⟨D, hrep, rfl, _⟩ := h
  refine lasting_none hrep k hk ?_
  rw [← keys_abs, hp]
  simp

theorem ses_down (h : Ses B w0 w a A) : Calls Try.prog 15 #[.pointer (some ⟨a, 0, none⟩)] w fun r w' => r = .returned (.bool A.down) ∧ w = w' := by
  obtain ⟨D, hrep, rfl, _⟩ := h
  exact down_any hrep

theorem crashed_ok {A A' : Abs} (h : A.Ok) (hc : Crashed A A') : A'.Ok := by
  unfold Abs.Ok
  rw [hc.marked]
  refine ⟨by simp [hc.pend], by simp [hc.pend], by simp, by simp, by simp [hc.pend], by rw [hc.len]; exact h.size, by rw [hc.stores, hc.steps]; exact h.cnt, by rw [hc.steps]; exact h.few, by rw [hc.left]; omega⟩

/-- a crash; what lies outside of the device's blocks stays -/
def CrashAns (B : Nat) (w0 : World) (a : Nat) (A : Abs) (w : World) (r : Ending) (w' : World) : Prop :=
  ∃ A' n, r = .returned (.int .i64 n) ∧ Crashed A A' ∧ Ses B w0 w' a A' ∧ ∃ S : Nat → Prop, Off S w w'

theorem ses_crash (h : Ses B w0 w a A) (C : Option Addr) (n c : Nat) (hC : Bytes w C n) (hCB : ∀ b o, 0 < n → C = some ⟨b, o, none⟩ → b < B) (P : Nat → Prop) (hP : ∀ D, Rep w a D → D.abs = A → (∀ k, Foot a D k → B ≤ k) → ∀ k, Foot a D k → ¬ P k) :
    Calls Try.prog 12 #[.pointer (some ⟨a, 0, none⟩), .slice C n c] w fun r w' =>
      ∃ A' m, r = .returned (.int .i64 m) ∧ Crashed A A' ∧ Ses B w0 w' a A' ∧ ∀ k, k < w.heap.size → P k → w'.heap[k]? = w.heap[k]? := by
  obtain ⟨D, hrep, rfl, hok, hb, hf, hz⟩ := h
  refine (crash_any hrep hok C n c hC (fun b o hn e hx => by have := hf b hx; have := hCB b o hn e; omega)).mono fun r w' ⟨hr, D', hres, hc⟩ => ?_
  exact ⟨D'.abs, _, hr, hc, ses_step hb hf hz hres rfl (crashed_ok hok hc), fun k hk hp => hres.off.block k hk (fun hx => hP D hrep rfl hf k hx hp)⟩
end
end Pm
end Go.Proofs.Ytlcjnmoicjgaiaa
