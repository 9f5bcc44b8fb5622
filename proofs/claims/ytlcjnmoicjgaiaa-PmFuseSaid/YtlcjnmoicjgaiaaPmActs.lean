/- play, of any act that stores, flushes or fences, on a device that the call made. -/
import Derived.Test.YtlcjnmoicjgaiaaPmPlayS
import Derived.Test.YtlcjnmoicjgaiaaPmPlayF
import Derived.Test.YtlcjnmoicjgaiaaPmPlayG
import Derived.Test.YtlcjnmoicjgaiaaPmFew
import Derived.Test.YtlcjnmoicjgaiaaPmLast
namespace Go.Proofs.Ytlcjnmoicjgaiaa
open Go.RowKit Go.MapKept
namespace Pm

theorem mark_steps (A : Abs) (k : Nat) : (A.mark k).steps = A.steps := by
  unfold Abs.mark; split <;> rfl
theorem marks_steps (A : Abs) (i : Nat) : ∀ n, (A.marks i n).steps = A.steps
  | 0 => rfl
  | n + 1 => by rw [Abs.marks, mark_steps, marks_steps A i n]
theorem settle_steps (A : Abs) (k : Nat) : (A.settle k).steps = A.steps ∧ (A.settle k).words = A.words := by
  unfold Abs.settle
  split
  · exact ⟨rfl, rfl⟩
  · split <;> exact ⟨rfl, rfl⟩
theorem settles_steps : ∀ (l : List Nat) (A : Abs), (A.settles l).steps = A.steps ∧ (A.settles l).words = A.words
  | [], _ => ⟨rfl, rfl⟩
  | k :: r, A => by
    have h1 := settles_steps r (A.settle k)
    have h2 := settle_steps A k
    exact ⟨h1.1.trans h2.1, h1.2.trans h2.2⟩

/-- what an act leaves: it is sound, did a step at most, and has as many words -/
def Goes (A A' : Abs) : Prop := A'.Ok ∧ A'.steps ≤ A.steps + 1 ∧ A'.words.length = A.words.length

theorem goes_store {A : Abs} (h : A.Ok) (hs : A.steps + 1 < 100000000000) (i x : Int) : Goes A (A.storeAt i x) := by
  unfold Abs.storeAt
  cases hc : A.canStore i with
  | false => exact ⟨h, by simp, rfl⟩
  | true =>
    simp only [if_true]
    simp only [Abs.canStore, Abs.has, Bool.and_eq_true, decide_eq_true_eq] at hc
    refine ⟨store_ok h (by omega) x hs, Nat.le_refl _, ?_⟩
    simp [Abs.store]
theorem goes_flush {A : Abs} (h : A.Ok) (hs : A.steps + 1 < 100000000000) (i : Int) : Goes A (A.flushAt i) := by
  unfold Abs.flushAt
  cases hc : A.canFlush i with
  | false => exact ⟨h, by simp, rfl⟩
  | true =>
    simp only [if_true]
    refine ⟨flush_ok h _ hs, ?_, ?_⟩
    · unfold Abs.flush; rw [marks_steps]; exact Nat.le_refl _
    · unfold Abs.flush; rw [marks_words]; rfl
theorem goes_fence {A : Abs} (h : A.Ok) (hs : A.steps + 1 < 100000000000) : Goes A A.fenceAt := by
  unfold Abs.fenceAt
  cases hc : A.down with
  | true => exact ⟨h, by simp, rfl⟩
  | false =>
    refine ⟨fence_ok h hs, ?_, ?_⟩
    · show (A.step.settles A.marked).steps ≤ _
      rw [(settles_steps _ _).1]; exact Nat.le_refl _
    · show (A.step.settles A.marked).words.length = _
      rw [(settles_steps _ _).2]; rfl

/-- play's answer on a session -/
def PlayAns (B : Nat) (w0 : World) (a : Nat) (A : Abs) (r : Ending) (w' : World) : Prop :=
  (∃ b, r = .returned (.tuple #[.agg #[.slice none 0 0, .int .i64 0, .int .i64 0, .int .i64 0], .bool b])) ∧ ∃ A', Ses B w0 w' a A' ∧ Goes A A' ∧ (A.down = true → A' = A)

section
variable {B a : Nat} {w0 w : World} {A : Abs}

theorem ses_play (h : Ses B w0 w a A) (k W X : Int) (C : Option Addr) (n c : Nat) (h0 : 0 ≤ k) (h1 : k < 256) (hk : k % 8 < 6) (hs : A.steps + 1 < 100000000000) :
    Calls Try.prog 9 #[.pointer (some ⟨a, 0, none⟩), .agg #[.slice none 0 0, .int .i64 0, .int .i64 0, .int .i64 0], .agg #[.int .u8 k, .int .i64 W, .int .u64 X, .slice C n c]] w (PlayAns B w0 a A) := by
  obtain ⟨D, hrep, rfl, hok, hb, hf, hz⟩ := h
  have fin : ∀ A', Goes D.abs A' → (D.abs.down = true → A' = D.abs) → Calls Try.prog 9 #[.pointer (some ⟨a, 0, none⟩), .agg #[.slice none 0 0, .int .i64 0, .int .i64 0, .int .i64 0], .agg #[.int .u8 k, .int .i64 W, .int .u64 X, .slice C n c]] w (Played w a D A') →
      Calls Try.prog 9 #[.pointer (some ⟨a, 0, none⟩), .agg #[.slice none 0 0, .int .i64 0, .int .i64 0, .int .i64 0], .agg #[.int .u8 k, .int .i64 W, .int .u64 X, .slice C n c]] w (PlayAns B w0 a D.abs) := fun A' hg hd hc =>
    hc.mono fun r w' ⟨hr, D', hres, ha⟩ => ⟨hr, A', ses_step hb hf hz hres ha hg.1, hg, hd⟩
  have hm0 : 0 ≤ k % 8 := Int.emod_nonneg _ (by omega)
  by_cases h3 : k % 8 < 3
  · exact fin _ (goes_store hok hs W X) (fun hd => by simp [Abs.storeAt, Abs.canStore, hd]) (play_store hrep hok k W X C n c (k % 8) h3 rfl h0 h1)
  · by_cases h4 : k % 8 = 3
    · exact fin _ (goes_flush hok hs _) (fun hd => by simp [Abs.flushAt, Abs.canFlush, hd]) (play_flush3 hrep hok k W X C n c h4 h0 h1 hs)
    · by_cases h5 : k % 8 = 4
      · exact fin _ (goes_fence hok hs) (fun hd => by simp [Abs.fenceAt, hd]) (play_fence hrep hok k W X C n c h5 h0 h1 hs)
      · exact fin _ (goes_flush hok hs _) (fun hd => by simp [Abs.flushAt, Abs.canFlush, hd]) (play_flush5 hrep hok k W X C n c (by omega) h0 h1 hs)
end
end Pm
end Go.Proofs.Ytlcjnmoicjgaiaa
