/- Texts laid together: RunMath, RunMem, RunFit, RunGrow, RunTake, RunLives. -/
import Derived.Test.YtleehhpodgbomaaGreatDoorCt2
import Derived.Deep.OwnRows
import Derived.Deep.DeepCutAuto
/- Free runs, without memory: those of a map, the first that is long enough, those that are taken. -/
namespace Go.Proofs.YtleehhpodgbomaaGreatDoor
namespace Rn
open Bm

abbrev Run := Nat × Nat

/-- the free runs from block s on -/
inductive From (f : Nat → Bool) (n : Nat) : Nat → List Run → Prop where
  | none {s : Nat} : (∀ c, s ≤ c → c < n → f c = true) → From f n s []
  | some {s a e : Nat} {l : List Run} : s ≤ a → a < e → e ≤ n → (∀ c, s ≤ c → c < a → f c = true) → (∀ c, a ≤ c → c < e → f c = false) → (e = n ∨ f e = true) → From f n e l → From f n s ((a, e - a) :: l)

theorem next_or (f : Nat → Bool) (u : Bool) (n s : Nat) : (next f u n s = -1 ∧ ∀ c, s ≤ c → c < n → f c ≠ u) ∨ ∃ d : Nat, next f u n s = (d : Int) ∧ s ≤ d ∧ d < n ∧ f d = u ∧ ∀ c, s ≤ c → c < d → f c ≠ u := by
  rcases next_is f u n s with ⟨e, g⟩ | ⟨d, e, h1, h2, h3, h4⟩
  · exact .inl ⟨e, fun c h1 h2 => g c h1 h2⟩
  · exact .inr ⟨d, e, h1, h2, h3, fun c h1 h2 => h4 c h1 h2⟩

theorem from_exists (f : Nat → Bool) (n : Nat) : ∀ k s, n - s ≤ k → ∃ l, From f n s l
  | 0, s, h => ⟨[], .none fun c h1 h2 => by omega⟩
  | k + 1, s, h => by
    rcases next_or f false n s with ⟨_, g⟩ | ⟨a, _, h1, h2, h3, h4⟩
    · exact ⟨[], .none fun c h1 h2 => by simpa using g c h1 h2⟩
    · rcases next_or f true n a with ⟨_, g⟩ | ⟨e, _, k1, k2, k3, k4⟩
      · obtain ⟨l, hl⟩ := from_exists f n k n (by omega)
        exact ⟨_, .some h1 h2 (Nat.le_refl _) (fun c x y => by simpa using h4 c x y) (fun c x y => by simpa using g c x y) (.inl rfl) hl⟩
      · have hne : a ≠ e := fun e' => by rw [e', k3] at h3; cases h3
        obtain ⟨l, hl⟩ := from_exists f n k e (by omega)
        exact ⟨_, .some h1 (by omega) (by omega) (fun c x y => by simpa using h4 c x y) (fun c x y => by simpa using k4 c x y) (.inr k3) hl⟩

/-- where what is asked of the map stands, if the runs are none -/
theorem From.next_none {f : Nat → Bool} {n s : Nat} (h : From f n s []) : next f false n s = -1 := by
  cases h with
  | none g =>
    rcases next_or f false n s with ⟨e, _⟩ | ⟨a, _, h1, h2, h3, _⟩
    · exact e
    · rw [g a h1 h2] at h3; cases h3
theorem From.next_some {f : Nat → Bool} {n s a c : Nat} {l : List Run} (h : From f n s ((a, c) :: l)) :
    next f false n s = (a : Int) ∧ s ≤ a ∧ 1 ≤ c ∧ a + c ≤ n ∧ ((next f true n a = -1 ∧ a + c = n) ∨ next f true n a = ((a + c : Nat) : Int)) ∧ From f n (a + c) l ∧ (∀ d, a ≤ d → d < a + c → f d = false) ∧ (a + c = n ∨ f (a + c) = true) ∧ (∀ d, s ≤ d → d < a → f d = true) := by
  generalize hc : (a, c) :: l = L at h
  cases h with
  | none _ => cases hc
  | @some s' a' e l' h1 h2 h3 h4 h5 h6 h7 =>
    injection hc with hc hl
    injection hc with ha hc
    subst ha hc hl
    have he : a + (e - a) = e := by omega
    rw [he]
    refine ⟨?_, h1, by omega, h3, ?_, h7, h5, h6, h4⟩
    · rcases next_or f false n s with ⟨_, g⟩ | ⟨d, e1, k1, k2, k3, k4⟩
      · exact absurd (h5 a (Nat.le_refl _) h2) (g a h1 (by omega))
      · rw [e1]
        rcases Nat.lt_trichotomy d a with x | x | x
        · rw [h4 d k1 x] at k3; cases k3
        · rw [x]
        · exact absurd (h5 a (Nat.le_refl _) h2) (k4 a h1 x)
    · rcases next_or f true n a with ⟨e1, g⟩ | ⟨d, e1, k1, k2, k3, k4⟩
      · refine .inl ⟨e1, ?_⟩
        rcases h6 with x | x
        · exact x
        · rcases Nat.lt_or_ge e n with y | y
          · exact absurd x (g e (by omega) y)
          · omega
      · refine .inr ?_
        rw [e1]
        rcases Nat.lt_trichotomy d e with x | x | x
        · rw [h5 d k1 x] at k3; cases k3
        · rw [x]
        · rcases h6 with y | y
          · omega
          · exact absurd y (k4 e (by omega) x)

/-- the runs as the document finds them, block by block -/
def ext (l : List Run) (b : Nat) : List Run :=
  match l.getLast? with
  | some r => if r.1 + r.2 = b then l.dropLast ++ [(r.1, r.2 + 1)] else l ++ [(b, 1)]
  | none => l ++ [(b, 1)]
def frs (f : Nat → Bool) : Nat → List Run
  | 0 => []
  | b + 1 => if f b then frs f b else ext (frs f b) b

theorem ext_end {l : List Run} {r : Run} {b : Nat} (h : r.1 + r.2 = b) : ext (l ++ [r]) b = l ++ [(r.1, r.2 + 1)] := by
  unfold ext
  simp [h]
theorem ext_apart {l : List Run} {b : Nat} (h : ∀ r, l.getLast? = some r → r.1 + r.2 ≠ b) : ext l b = l ++ [(b, 1)] := by
  unfold ext
  split
  · rename_i r hr
    rw [if_neg (h r hr)]
  · rfl
/-- each run ends by then -/
theorem frs_ends (f : Nat → Bool) : ∀ b, ∀ r ∈ frs f b, 1 ≤ r.2 ∧ r.1 + r.2 ≤ b
  | 0 => fun r hr => by cases hr
  | b + 1 => fun r hr => by
    have ih := frs_ends f b
    rw [frs] at hr
    split at hr
    · have := ih r hr
      omega
    · unfold ext at hr
      split at hr
      · rename_i q hq
        have hqm := ih q (List.mem_of_getLast? hq)
        split at hr
        · rcases List.mem_append.1 hr with x | x
          · have := ih r (List.dropLast_subset _ x)
            omega
          · obtain rfl : r = (q.1, q.2 + 1) := by simpa using x
            simp only
            omega
        · rcases List.mem_append.1 hr with x | x
          · have := ih r x
            omega
          · obtain rfl : r = (b, 1) := by simpa using x
            simp
      · rcases List.mem_append.1 hr with x | x
        · have := ih r x
          omega
        · obtain rfl : r = (b, 1) := by simpa using x
          simp
theorem frs_skip {f : Nat → Bool} {s : Nat} : ∀ d, s ≤ d → (∀ c, s ≤ c → c < d → f c = true) → frs f d = frs f s
  | 0, h, _ => by obtain rfl : s = 0 := by omega
                  rfl
  | d + 1, h, g => by
    by_cases e : s = d + 1
    · rw [e]
    · rw [frs, g d (by omega) (by omega), if_pos rfl]
      exact frs_skip d (by omega) (fun c h1 h2 => g c h1 (by omega))
theorem frs_run {f : Nat → Bool} {a : Nat} (hl : ∀ r, (frs f a).getLast? = some r → r.1 + r.2 ≠ a) : ∀ e, a < e → (∀ c, a ≤ c → c < e → f c = false) → frs f e = frs f a ++ [(a, e - a)]
  | 0, h, _ => by omega
  | e + 1, h, g => by
    rw [frs, g e (by omega) (by omega), if_neg (by simp)]
    by_cases hx : a = e
    · subst hx
      rw [ext_apart hl, show a + 1 - a = 1 by omega]
    · rw [frs_run hl e (by omega) (fun c h1 h2 => g c h1 (by omega)), ext_end (by simp; omega), show e + 1 - a = e - a + 1 by omega]
theorem frs_from {f : Nat → Bool} {n s : Nat} {l : List Run} (h : From f n s l) : s ≤ n → (f s = false → s < n → ∀ r, (frs f s).getLast? = some r → r.1 + r.2 ≠ s) → frs f n = frs f s ++ l := by
  induction h with
  | none g =>
    intro hs _
    rw [List.append_nil]
    exact frs_skip _ hs g
  | @some s a e l h1 h2 h3 h4 h5 h6 h7 ih =>
    intro hs hC
    have hsk := frs_skip a h1 h4
    have hrun := frs_run (f := f) (a := a) (fun r hr => by
      rw [hsk] at hr
      by_cases hx : s = a
      · subst hx
        exact hC (h5 s (Nat.le_refl _) h2) (by omega) r hr
      · have := (frs_ends f s r (List.mem_of_getLast? hr)).2
        omega) e h2 h5
    rw [ih h3 (fun hf hlt => by
      rcases h6 with x | x
      · omega
      · rw [x] at hf; cases hf), hrun, hsk]
    simp
theorem from_frs (f : Nat → Bool) (n : Nat) : From f n 0 (frs f n) := by
  obtain ⟨l, hl⟩ := from_exists f n n 0 (by omega)
  have := frs_from hl (Nat.zero_le _) (fun _ _ r hr => by simp [frs] at hr)
  rw [this]
  exact hl

/-- the first that is long enough, cut -/
def fit (l : List Run) (c : Nat) : Option Run := (l.find? fun r => decide (c ≤ r.2)).map fun r => (r.1, c)
theorem fit_nil (c : Nat) : fit [] c = none := rfl
theorem fit_yes {a k c : Nat} {l : List Run} (h : c ≤ k) : fit ((a, k) :: l) c = some (a, c) := by simp [fit, h]
theorem fit_no {a k c : Nat} {l : List Run} (h : ¬ c ≤ k) : fit ((a, k) :: l) c = fit l c := by simp [fit, h]

/-- runs from the first one on, until there are so many -/
def cut : List Run → Nat → List Run
  | [], _ => []
  | r :: l, c => if c = 0 then [] else (r.1, min r.2 c) :: cut l (c - min r.2 c)
theorem cut_zero (l : List Run) : cut l 0 = [] := by cases l <;> simp [cut]
def tot (l : List Run) : Nat := (l.map (·.2)).sum
theorem tot_cons (r : Run) (l : List Run) : tot (r :: l) = r.2 + tot l := by simp [tot]
theorem tot_snoc (r : Run) (l : List Run) : tot (l ++ [r]) = tot l + r.2 := by simp [tot]
theorem tot_cut : ∀ (l : List Run) (c : Nat), c ≤ tot l → tot (cut l c) = c
  | [], c, h => by simp [tot, cut] at *; omega
  | r :: l, c, h => by
    rw [tot_cons] at h
    rw [cut]
    split
    · rename_i e; rw [e]; rfl
    · rw [tot_cons, tot_cut l _ (by omega)]
      simp only
      omega
theorem cut_append : ∀ (l l' : List Run) (c : Nat), cut (l ++ l') c = cut l c ++ cut l' (c - tot (cut l c))
  | [], l', c => by simp [cut, tot]
  | r :: l, l', c => by
    rw [List.cons_append, cut, cut]
    split
    · rename_i e
      simp [e, cut_zero]
    · rw [cut_append l l', tot_cons, List.cons_append]
      simp only
      rw [show c - min r.2 c - tot (cut l (c - min r.2 c)) = c - (min r.2 c + tot (cut l (c - min r.2 c))) by omega]
theorem cut_take {l : List Run} {k c : Nat} (h : k < l.length) : cut (l.take (k + 1)) c = cut (l.take k) c ++ (if c - tot (cut (l.take k) c) = 0 then [] else [(l[k].1, min l[k].2 (c - tot (cut (l.take k) c)))]) := by
  rw [List.take_succ_eq_append_getElem h, cut_append]
  congr 1
theorem cut_full {l : List Run} {k c : Nat} (h : c - tot (cut (l.take k) c) = 0) : cut l c = cut (l.take k) c := by
  conv => lhs; rw [← List.take_append_drop k l, cut_append, h, cut_zero, List.append_nil]
theorem cut_le : ∀ (l : List Run) (c : Nat), tot (cut l c) ≤ c ∧ (cut l c).length ≤ l.length
  | [], c => by simp [cut, tot]
  | r :: l, c => by
    rw [cut]
    split
    · simp [tot]
    · rw [tot_cons]
      have := cut_le l (c - min r.2 c)
      simp only [List.length_cons]
      omega
/-- what a Take is of -/
def cho (l : List Run) (c : Nat) : List Run := if 1 ≤ c then (match fit l c with | some r => [r] | none => cut l c) else []
theorem tot_cho (l : List Run) (c : Nat) (h : c ≤ tot l) : tot (cho l c) = c := by
  unfold cho
  split
  · split
    · rename_i r hr
      unfold fit at hr
      obtain ⟨x, _, e⟩ := Option.map_eq_some_iff.1 hr
      rw [← e]
      simp [tot]
    · exact tot_cut l c h
  · simp [tot]; omega
/-- runs that rise, apart, of free blocks -/
def Up (f : Nat → Bool) (n : Nat) : Nat → List Run → Prop
  | _, [] => True
  | s, r :: l => s ≤ r.1 ∧ 1 ≤ r.2 ∧ r.1 + r.2 ≤ n ∧ (∀ d, r.1 ≤ d → d < r.1 + r.2 → f d = false) ∧ Up f n (r.1 + r.2 + 1) l
theorem Up.less {f : Nat → Bool} {n : Nat} : ∀ {s t : Nat} {l : List Run}, Up f n s l → t ≤ s → Up f n t l
  | _, _, [], _, _ => trivial
  | _, _, _ :: _, h, ht => ⟨Nat.le_trans ht h.1, h.2⟩
theorem From.up {f : Nat → Bool} {n s : Nat} {l : List Run} (h : From f n s l) : Up f n s l ∧ ((s = n ∨ f s = true) → Up f n (s + 1) l) := by
  induction h with
  | none _ => exact ⟨trivial, fun _ => trivial⟩
  | @some s a e l h1 h2 h3 h4 h5 h6 h7 ih =>
    have he : a + (e - a) = e := by omega
    refine ⟨⟨h1, by simp only; omega, by simp only; omega, fun d k1 k2 => h5 d k1 (by simp only at k2; omega), by simp only; rw [he]; exact ih.2 h6⟩, fun hs => ⟨?_, by simp only; omega, by simp only; omega, fun d k1 k2 => h5 d k1 (by simp only at k2; omega), by simp only; rw [he]; exact ih.2 h6⟩⟩
    have hne : s ≠ a := fun x => by
      subst x
      rcases hs with y | y
      · omega
      · rw [h5 s (Nat.le_refl _) h2] at y; cases y
    simp only
    omega
theorem Up.cut {f : Nat → Bool} {n : Nat} : ∀ {s c : Nat} {l : List Run}, Up f n s l → Up f n s (cut l c)
  | _, _, [], _ => trivial
  | s, c, r :: l, h => by
    rw [Rn.cut]
    split
    · trivial
    · obtain ⟨h1, h2, h3, h4, h5⟩ := h
      exact ⟨h1, by simp only; omega, by simp only; omega, fun d k1 k2 => h4 d k1 (by simp only at k2; omega), (Up.cut h5).less (by simp only; omega)⟩
theorem Up.fit {f : Nat → Bool} {n c : Nat} (hc : 1 ≤ c) : ∀ {s : Nat} {l : List Run} {r : Run}, Up f n s l → fit l c = some r → Up f n s [r]
  | _, [], _, _, hr => by cases hr
  | s, (a, k) :: l, r, h, hr => by
    obtain ⟨h1, h2, h3, h4, h5⟩ := h
    by_cases hk : c ≤ k
    · rw [fit_yes hk] at hr
      injection hr with hr
      subst hr
      exact ⟨h1, hc, by simp only at *; omega, fun d k1 k2 => h4 d k1 (by simp only at *; omega), trivial⟩
    · rw [fit_no hk] at hr
      exact (Up.fit hc h5 hr).less (by simp only at *; omega)
theorem up_cho (f : Nat → Bool) (n c : Nat) : Up f n 0 (cho (frs f n) c) := by
  have h := (from_frs f n).up.1
  unfold cho
  split
  · rename_i hc
    split
    · rename_i r hr
      exact Up.fit hc h hr
    · exact h.cut
  · trivial
/-- the map that has these, too -/
def fl (f : Nat → Bool) (l : List Run) : Nat → Bool := l.foldl (fun g r => fill g r.1 (r.1 + r.2)) f
theorem fl_take {f : Nat → Bool} {l : List Run} {k : Nat} (h : k < l.length) : fl f (l.take (k + 1)) = fill (fl f (l.take k)) l[k].1 (l[k].1 + l[k].2) := by
  unfold fl
  rw [List.take_succ_eq_append_getElem h, List.foldl_append]
  rfl
/-- an earlier run has none of what is behind it -/
theorem fl_behind {n : Nat} : ∀ {l : List Run} {f g : Nat → Bool} {s k : Nat}, Up f n s l → (hk : k < l.length) → (∀ d, s ≤ d → g d = f d) → ∀ d, l[k].1 ≤ d → fl g (l.take k) d = f d
  | r :: l, f, g, s, 0, h, _, hg, d, hd => hg d (by have := h.1; simp only [List.getElem_cons_zero] at hd; omega)
  | r :: l, f, g, s, k + 1, h, hk, hg, d, hd => by
    obtain ⟨h1, h2, h3, h4, h5⟩ := h
    simp only [List.getElem_cons_succ] at hd
    refine fl_behind (g := fill g r.1 (r.1 + r.2)) h5 (by simpa using hk) (fun x hx => ?_) d hd
    unfold fill
    rw [decide_eq_false (by omega), hg x (by omega)]
    simp
theorem Up.get {f : Nat → Bool} {n : Nat} : ∀ {l : List Run} {s k : Nat}, Up f n s l → (hk : k < l.length) → s ≤ l[k].1 ∧ 1 ≤ l[k].2 ∧ l[k].1 + l[k].2 ≤ n ∧ (∀ d, l[k].1 ≤ d → d < l[k].1 + l[k].2 → f d = false)
  | r :: l, s, 0, h, _ => ⟨h.1, h.2.1, h.2.2.1, h.2.2.2.1⟩
  | r :: l, s, k + 1, h, hk => by
    have := Up.get (k := k) h.2.2.2.2 (by simpa using hk)
    have h1 := h.1
    simp only [List.getElem_cons_succ]
    exact ⟨by omega, this.2⟩
theorem Up.next {f : Nat → Bool} {n : Nat} : ∀ {l : List Run} {s k : Nat}, Up f n s l → (hk : k + 1 < l.length) → (l[k]'(by omega)).1 + (l[k]'(by omega)).2 < l[k + 1].1
  | r :: q :: l, s, 0, h, _ => by
    have := h.2.2.2.2.1
    simp only [List.getElem_cons_zero, List.getElem_cons_succ]
    omega
  | r :: l, s, k + 1, h, hk => by
    simp only [List.getElem_cons_succ]
    exact Up.next h.2.2.2.2 (by simpa using hk)
/-- it may be had, behind those ahead of it -/
theorem fl_range {f : Nat → Bool} {n k : Nat} {l : List Run} (h : Up f n 0 l) (hk : k < l.length) : rgf n (fl f (l.take k)) (l[k].1 : Int) (l[k].2 : Int) = fl f (l.take (k + 1)) := by
  obtain ⟨_, h2, h3, h4⟩ := h.get hk
  have hb := fl_behind h hk (fun _ _ => rfl)
  have : rgb n (fl f (l.take k)) (l[k].1 : Int) (l[k].2 : Int) = true := rgb_iff.2 ⟨by omega, fun b x y => by
    rw [hb b (by omega)]
    exact h4 b (by omega) (by omega)⟩
  unfold rgf
  rw [this, if_pos rfl, fl_take hk, Int.toNat_natCast, show ((l[k].1 : Int) + (l[k].2 : Int)).toNat = l[k].1 + l[k].2 by omega]
/-- how many are free -/
theorem tot_from {f : Nat → Bool} {n s : Nat} {l : List Run} (h : From f n s l) : s ≤ n → tot l + cnt f n + s = n + cnt f s := by
  induction h with
  | @none s g =>
    intro hs
    have : ∀ k, s + k ≤ n → cnt f (s + k) = cnt f s + k := fun k => by
      induction k with
      | zero => intro _; rfl
      | succ k ih =>
        intro hk
        rw [← Nat.add_assoc, cnt, ih (by omega), g (s + k) (by omega) (by omega)]
        simp
        omega
    have := this (n - s) (by omega)
    rw [show s + (n - s) = n by omega] at this
    simp only [tot, List.map_nil, List.sum_nil]
    omega
  | @some s a e l h1 h2 h3 h4 h5 h6 h7 ih =>
    intro hs
    have x1 : ∀ k, s + k ≤ a → cnt f (s + k) = cnt f s + k := fun k => by
      induction k with
      | zero => intro _; rfl
      | succ k ih =>
        intro hk
        rw [← Nat.add_assoc, cnt, ih (by omega), h4 (s + k) (by omega) (by omega)]
        simp
        omega
    have x1 := x1 (a - s) (by omega)
    rw [show s + (a - s) = a by omega] at x1
    have x2 : ∀ k, a + k ≤ e → cnt f (a + k) = cnt f a := fun k => by
      induction k with
      | zero => intro _; rfl
      | succ k ih =>
        intro hk
        rw [← Nat.add_assoc, cnt, ih (by omega), h5 (a + k) (by omega) (by omega)]
        simp
    have x2 := x2 (e - a) (by omega)
    rw [show a + (e - a) = e by omega] at x2
    have := ih h3
    rw [tot_cons]
    simp only
    omega
theorem tot_frs (f : Nat → Bool) (n : Nat) : tot (frs f n) = n - cnt f n := by
  have := tot_from (from_frs f n) (Nat.zero_le _)
  rw [show cnt f 0 = 0 from rfl] at this
  omega
end Rn
end Go.Proofs.YtleehhpodgbomaaGreatDoor
/- Runs as they lie in memory; the first free run from a block on. -/
namespace Go.Proofs.YtleehhpodgbomaaGreatDoor
open Go.RowKit Go.MapKept
namespace Rn
open Bm

/-- runs as they lie, in a block from B on -/
structure Rs (w : World) (B : Nat) (A : Option Addr) (l : List Run) : Prop where
  at' : ∀ j (h : j < l.length), ∃ b o, A = some ⟨b, o, none⟩ ∧ b < w.heap.size ∧ B ≤ b ∧ w.cell? ⟨b, o + j * 2, none⟩ = some (.int .i64 (l[j].1 : Int)) ∧ w.cell? ⟨b, o + j * 2 + 1, none⟩ = some (.int .i64 (l[j].2 : Int))
theorem Rs.keep {w w' : World} {B : Nat} {A : Option Addr} {l : List Run} (h : Rs w B A l) (hb : Below w.heap.size w w') : Rs w' B A l :=
  ⟨fun j hj => by
    obtain ⟨b, o, e, hlt, hB, hc, hd⟩ := h.at' j hj
    exact ⟨b, o, e, Nat.lt_of_lt_of_le hlt hb.size, hB, (hb.cell (p := ⟨b, o + j * 2, none⟩) hlt).trans hc, (hb.cell (p := ⟨b, o + j * 2 + 1, none⟩) hlt).trans hd⟩⟩
theorem Rs.chg {w w' : World} {B q : Nat} {A : Option Addr} {l : List Run} (h : Rs w B A l) (hb : Chg q w w') (hq : q < B) : Rs w' B A l :=
  ⟨fun j hj => by
    obtain ⟨b, o, e, hlt, hB, hc, hd⟩ := h.at' j hj
    exact ⟨b, o, e, Nat.lt_of_lt_of_le hlt hb.size, hB, (hb.cell (p := ⟨b, o + j * 2, none⟩) hlt (by simp only; omega)).trans hc, (hb.cell (p := ⟨b, o + j * 2 + 1, none⟩) hlt (by simp only; omega)).trans hd⟩⟩
theorem Rs.drew {w : World} {B : Nat} {A : Option Addr} {l : List Run} (h : Rs w B A l) : Rs w.drew B A l := h.keep (Below.refl _ _).drew
theorem Rs.less {w : World} {B B' : Nat} {A : Option Addr} {l : List Run} (h : Rs w B A l) (hB : B' ≤ B) : Rs w B' A l :=
  ⟨fun j hj => by
    obtain ⟨b, o, e, hlt, hB2, hc, hd⟩ := h.at' j hj
    exact ⟨b, o, e, hlt, by omega, hc, hd⟩⟩

/-- a run's value -/
abbrev rv (s c : Int) : Value := .agg #[.int .i64 s, .int .i64 c]

/-- two ints of the call's own in block b -/
structure Own2 (w : World) (b : Nat) (x y : Int) : Prop where
  lt : b < w.heap.size
  c0 : w.cell? ⟨b, 0, none⟩ = some (.int .i64 x)
  c1 : w.cell? ⟨b, 1, none⟩ = some (.int .i64 y)
  f : ∀ o, w.frozen? ⟨b, o, none⟩ = false
theorem Own2.keepN {w w' : World} {b N : Nat} {x y : Int} (h : Own2 w b x y) (hb : Below N w w') (hN : b < N) : Own2 w' b x y :=
  ⟨Nat.lt_of_lt_of_le h.lt hb.size, (hb.cell (p := ⟨b, 0, none⟩) hN).trans h.c0, (hb.cell (p := ⟨b, 1, none⟩) hN).trans h.c1, fun o => (hb.frozen (p := ⟨b, o, none⟩) hN).trans (h.f o)⟩
theorem Own2.keep {w w' : World} {b : Nat} {x y : Int} (h : Own2 w b x y) (hb : Below w.heap.size w w') : Own2 w' b x y := h.keepN hb h.lt
theorem Own2.drew {w : World} {b : Nat} {x y : Int} (h : Own2 w b x y) : Own2 w.drew b x y := ⟨h.lt, h.c0, h.c1, h.f⟩
theorem Own2.drewN {w : World} {b : Nat} {x y : Int} (h : Own2 w b x y) (k : Nat) : Own2 (w.drewN k) b x y := ⟨h.lt, h.c0, h.c1, h.f⟩
/-- both are stored anew -/
theorem Own2.put {w : World} {b : Nat} {x y : Int} (h : Own2 w b x y) (x' y' : Int) : Own2 ((w.setCell ⟨b, 0, none⟩ (.int .i64 x')).setCell ⟨b, 1, none⟩ (.int .i64 y')) b x' y' := by
  have e0 : ((w.setCell ⟨b, 0, none⟩ (.int .i64 x')).setCell ⟨b, 1, none⟩ (.int .i64 y')).cell? ⟨b, 0, none⟩ = some (.int .i64 x') := by
    rw [World.cell?_setCell_other _ _ _ _ (by simp)]
    exact World.cell?_setCell_same _ _ _ h.c0
  have e1 : ((w.setCell ⟨b, 0, none⟩ (.int .i64 x')).setCell ⟨b, 1, none⟩ (.int .i64 y')).cell? ⟨b, 1, none⟩ = some (.int .i64 y') :=
    World.cell?_setCell_same _ _ _ (u := .int .i64 y) (by rw [World.cell?_setCell_other _ _ _ _ (by simp)]; exact h.c1)
  exact ⟨by simpa [World.setCell] using h.lt, e0, e1, fun o => by simpa using h.f o⟩
theorem Own2.put1 {w : World} {b : Nat} {x y : Int} (h : Own2 w b x y) (y' : Int) : Own2 (w.setCell ⟨b, 1, none⟩ (.int .i64 y')) b x y' :=
  ⟨by simpa [World.setCell] using h.lt, by rw [World.cell?_setCell_other _ _ _ _ (by simp)]; exact h.c0, World.cell?_setCell_same _ _ _ h.c1, fun o => by simpa using h.f o⟩
theorem own2_new (w : World) (x y : Int) (t : TypeId) : Own2 (w.alloc (.cells #[.int .i64 x, .int .i64 y] t)) w.heap.size x y :=
  ⟨by simp, World.cell?_alloc_mark w _ t _ 0, World.cell?_alloc_mark w _ t _ 1, fun o => (World.rowIs_alloc w #[.int .i64 x, .int .i64 y] t (fun j => if j = 0 then .int .i64 x else .int .i64 y) (fun j hj => by
    have : j < 2 := hj
    match j, this with
    | 0, _ => rfl
    | 1, _ => rfl)).frozen o⟩

section
variable {w : World} {p q K C n : Nat} {f : Nat → Bool}
set_option maxRecDepth 100000 in
set_option maxHeartbeats 1000000 in
theorem freeFrom_none (h : Mp w p q K C n f) (hT : Tab w) (s : Nat) (hs : s ≤ 65534) (hF : From f n s []) :
    Calls Tryz.prog 137 #[.pointer (some ⟨p, 0, none⟩), .int .i64 (s : Int)] w fun e w' => e = .returned (.tuple #[rv 0 0, .bool false]) ∧ Below w.heap.size w w' := by
  have HO := Lib.hid (own2_new w 0 0 59)
  have hba := (Below.refl w.heap.size w).alloc (Nat.le_refl _) (.cells #[.int .i64 0, .int .i64 0] 59)
  have hn := next_any (h.keep hba) (hT.below hba hT.lt) (s : Int) false (by omega)
  rw [Int.toNat_natCast, hF.next_none] at hn
  have HN := Lib.hid hn
  have HB := Lib.hid hba
  clear hn h hT hF hba
  have hc0 := HO.out.c0
  have hc1 := HO.out.c1
  have hf0 := HO.out.f 0
  have hf1 := HO.out.f 1
  go_enter Tryz.func137, Tryz.ntmps137
  go_wp2_with fail
  generalize w.alloc (.cells #[.int .i64 0, .int .i64 0] 59) = w1 at *
  refine HN.out.mono ?_
  rintro e w2 ⟨rfl, rfl⟩
  go_wp2
  refine bodyPost_ret (v := .tuple #[rv 0 0, .bool false]) ?_ rfl ⟨rfl, ?_⟩
  · simp [results, Tryz.results137, go_sem, hc0, hc1]
  · exact (HB.out.setCell (Nat.le_refl _) _).setCell (Nat.le_refl _) _
set_option maxRecDepth 100000 in
set_option maxHeartbeats 1000000 in
theorem freeFrom_some (h : Mp w p q K C n f) (hT : Tab w) (s a c : Nat) (l : List Run) (hs : s ≤ 65534) (hF : From f n s ((a, c) :: l)) :
    Calls Tryz.prog 137 #[.pointer (some ⟨p, 0, none⟩), .int .i64 (s : Int)] w fun e w' => e = .returned (.tuple #[rv (a : Int) (c : Int), .bool true]) ∧ Below w.heap.size w w' := by
  have hmx := h.max
  obtain ⟨e1, h1, h2, h3, h4, -⟩ := hF.next_some
  have HO := Lib.hid (own2_new w 0 0 59)
  have hba := (Below.refl w.heap.size w).alloc (Nat.le_refl _) (.cells #[.int .i64 0, .int .i64 0] 59)
  have hn := next_any (h.keep hba) (hT.below hba hT.lt) (s : Int) false (by omega)
  rw [Int.toNat_natCast, e1] at hn
  have hm := next_any (h.keep hba) (hT.below hba hT.lt) (a : Int) true (by omega)
  rw [Int.toNat_natCast] at hm
  have HL := Lib.hid (len_any (h.keep hba))
  have HN := Lib.hid hn
  have HB := Lib.hid hba
  have ha : ¬ (a : Int) = -1 := by omega
  have hc0 := HO.out.c0
  have hc1 := HO.out.c1
  have hf0 := HO.out.f 0
  have hf1 := HO.out.f 1
  rcases h4 with ⟨h4, h5⟩ | h4
  · rw [h4] at hm
    have HM := Lib.hid hm
    have hsub : (n : Int) - (a : Int) = (c : Int) := by omega
    clear hn hm h hT hF h4 e1 hba
    go_enter Tryz.func137, Tryz.ntmps137
    go_wp2_with fail
    generalize w.alloc (.cells #[.int .i64 0, .int .i64 0] 59) = w1 at *
    refine HN.out.mono ?_
    rintro e w2 ⟨rfl, rfl⟩
    go_wp2_with fail
    refine HM.out.mono ?_
    rintro e w2 ⟨rfl, rfl⟩
    go_wp2_with fail
    refine HL.out.mono ?_
    rintro e w2 ⟨rfl, rfl⟩
    go_wp2
    refine bodyPost_ret (v := .tuple #[rv (a : Int) (c : Int), .bool true]) ?_ rfl ⟨rfl, ?_⟩
    · simp [results, Tryz.results137, go_sem, hc0, hc1]
    · exact (HB.out.setCell (Nat.le_refl _) _).setCell (Nat.le_refl _) _
  · rw [h4] at hm
    have HM := Lib.hid hm
    obtain ⟨k, hk⟩ : ∃ k, k = a + c := ⟨_, rfl⟩
    rw [← hk] at HM
    have hsub : (k : Int) - (a : Int) = (c : Int) := by omega
    have hk1 : ¬ (k : Int) = -1 := by omega
    have hk2 : k ≤ 65534 := by omega
    clear hn hm h hT hF h4 e1 hk hba
    go_enter Tryz.func137, Tryz.ntmps137
    go_wp2_with fail
    generalize w.alloc (.cells #[.int .i64 0, .int .i64 0] 59) = w1 at *
    refine HN.out.mono ?_
    rintro e w2 ⟨rfl, rfl⟩
    go_wp2_with fail
    refine HM.out.mono ?_
    rintro e w2 ⟨rfl, rfl⟩
    go_wp2
    refine bodyPost_ret (v := .tuple #[rv (a : Int) (c : Int), .bool true]) ?_ rfl ⟨rfl, ?_⟩
    · simp [results, Tryz.results137, go_sem, hc0, hc1]
    · exact (HB.out.setCell (Nat.le_refl _) _).setCell (Nat.le_refl _) _
end
end Rn
end Go.Proofs.YtleehhpodgbomaaGreatDoor
/- Fit: the first free run that is long enough. -/
namespace Go.Proofs.YtleehhpodgbomaaGreatDoor
open Go.RowKit Go.MapKept
namespace Rn
open Bm

/-- what a Fit answers -/
def fv : Option Run → Value
  | some r => .tuple #[rv (r.1 : Int) (r.2 : Int), .bool true]
  | none => .tuple #[rv 0 0, .bool false]

section
variable {w : World} {p q K C n : Nat} {f : Nat → Bool}
set_option maxRecDepth 100000 in
set_option maxHeartbeats 1000000 in
theorem fit_low (x : Int) (hx : x < 1) : Calls Tryz.prog 109 #[.pointer (some ⟨p, 0, none⟩), .int .i64 x] w fun e w' => e = .returned (fv none) ∧ Below w.heap.size w w' := by
  have HO := Lib.hid (own2_new w 0 0 59)
  have HB := Lib.hid ((Below.refl w.heap.size w).alloc (Nat.le_refl _) (.cells #[.int .i64 0, .int .i64 0] 59))
  have hc0 := HO.out.c0
  have hc1 := HO.out.c1
  have hf0 := HO.out.f 0
  have hf1 := HO.out.f 1
  go_enter Tryz.func109, Tryz.ntmps109
  go_wp2
  refine bodyPost_ret (v := fv none) ?_ rfl ⟨rfl, ?_⟩
  · simp [results, Tryz.results109, go_sem, hc0, hc1, fv]
  · exact HB.out

/-- the first of runs, or noughts -/
def hd (l : List Run) : Run := l.headD (0, 0)
theorem freeFrom_any (h : Mp w p q K C n f) (hT : Tab w) (s : Nat) (l : List Run) (hs : s ≤ 65534) (hF : From f n s l) :
    Calls Tryz.prog 137 #[.pointer (some ⟨p, 0, none⟩), .int .i64 (s : Int)] w fun e w' => e = .returned (.tuple #[rv ((hd l).1 : Int) ((hd l).2 : Int), .bool (!l.isEmpty)]) ∧ Below w.heap.size w w' := by
  cases l with
  | nil => exact freeFrom_none h hT s hs hF
  | cons r l => exact freeFrom_some h hT s r.1 r.2 l hs hF

/-- how far it is to the end -/
def mu (n : Nat) (g b : Value) (w : World) : Nat :=
  match g, b with
  | .pointer (some a), .bool true => n + 1 - (intOf ((w.cell? a).getD (.bool false))).toNat
  | _, _ => 0
theorem mu_yes {g : Nat} {x : Nat} {y : Int} (h : Own2 w g (x : Int) y) : mu n (.pointer (some ⟨g, 0, none⟩)) (.bool true) w = n + 1 - x := by
  unfold mu
  simp only
  rw [h.c0]
  rfl
theorem mu_no (g : Value) : mu n g (.bool false) w = 0 := by
  unfold mu
  split
  · rename_i h; cases h
  · rfl

theorem mu_less {w : World} {f : Nat → Bool} {n g d a : Nat} {m : List Run} (h : Own2 w g ((hd m).1 : Int) ((hd m).2 : Int)) (hF : From f n d m) (hd : a < d) (ha : a ≤ n) : mu n (.pointer (some ⟨g, 0, none⟩)) (.bool (!m.isEmpty)) w < n + 1 - a := by
  cases m with
  | nil =>
    simp only [List.isEmpty_nil, Bool.not_true]
    rw [mu_no]
    omega
  | cons r m =>
    have := hF.next_some.2
    simp only [List.isEmpty_cons, Bool.not_false]
    rw [mu_yes h]
    simp only [Rn.hd, List.headD_cons]
    omega

/-- between two rounds -/
def Rd (w wr : World) (f : Nat → Bool) (n g s : Nat) (m : List Run) : Prop :=
  From f n s m ∧ Own2 wr g ((hd m).1 : Int) ((hd m).2 : Int) ∧ Own2 wr w.heap.size 0 0 ∧ w.heap.size < g ∧ Below w.heap.size w wr ∧ s ≤ n

set_option maxRecDepth 100000 in
set_option maxHeartbeats 1000000 in
theorem fit_any (h : Mp w p q K C n f) (hT : Tab w) (c : Nat) (hc : 1 ≤ c) (hc2 : c ≤ 9223372036854775807) :
    Calls Tryz.prog 109 #[.pointer (some ⟨p, 0, none⟩), .int .i64 (c : Int)] w fun e w' => e = .returned (fv (fit (frs f n) c)) ∧ Below w.heap.size w w' := by
  have hmx := h.max
  have HO := Lib.hid (own2_new w 0 0 59)
  have HB := Lib.hid ((Below.refl w.heap.size w).alloc (Nat.le_refl _) (.cells #[.int .i64 0, .int .i64 0] 59))
  have HM0 := Lib.hid h
  have HT0 := Lib.hid hT
  have hc1 : ¬ (c : Int) < 1 := by omega
  have hF := from_frs f n
  generalize frs f n = L at *
  have H0 := Lib.hid (freeFrom_any (h.keep HB.out) (hT.below HB.out hT.lt) 0 L (by omega) hF)
  have HF := Lib.hid hF
  clear h hT hF
  go_enter Tryz.func109, Tryz.ntmps109
  go_wp2_with fail
  generalize w.alloc (.cells #[.int .i64 0, .int .i64 0] 59) = w1 at *
  refine H0.out.mono ?_
  rintro e w2 ⟨rfl, hb⟩
  have HB2 := Lib.hid (HB.out.trans (hb.mono HB.out.size))
  have HO2 := Lib.hid (HO.out.keep hb)
  clear hb
  go_wp2
  go_loopw [6, 7] (fun gv bv wr => ∃ (g s : Nat) (m : List Run), gv = .pointer (some ⟨g, 0, none⟩) ∧ bv = .bool (!m.isEmpty) ∧ fit L c = fit m c ∧ Rd w wr f n g s m) (fun gv bv wr => mu n gv bv wr)
  case atStart =>
    refine ⟨w2.heap.size, 0, L, rfl, rfl, rfl, HF.out, own2_new w2 _ _ _, HO2.out.keep ((Below.refl _ _).alloc (Nat.le_refl _) _), HO2.out.lt, HB2.out.alloc HB2.out.size _, Nat.zero_le _⟩
  case round =>
    obtain ⟨g, s, m, rfl, rfl, hfit, hF, hg, hr, hlt, hb, hsn⟩ := hrel
    cases m with
    | nil =>
      have HE := Lib.hid hfit
      have HB3 := Lib.hid hb
      have HR := Lib.hid hr
      have hc0 := hr.c0
      have hcc := hr.c1
      have hf0 := hr.f 0
      have hf1 := hr.f 1
      clear hfit hb hr hF hg
      simp only [List.isEmpty_nil, Bool.not_true]
      go_wp2
      refine bodyPost_ret (v := fv none) ?_ rfl ⟨?_, ?_⟩
      · simp [results, Tryz.results109, go_sem, hc0, hcc, fv]
      · rw [HE.out]; rfl
      · exact (HB3.out.setCell (Nat.le_refl _) _).setCell (Nat.le_refl _) _
    | cons r m =>
      obtain ⟨a, k⟩ := r
      obtain ⟨_, h1, h2, h3, _, hF2, _⟩ := hF.next_some
      have HE := Lib.hid hfit
      have HB3 := Lib.hid hb
      have hg0 : wr.cell? ⟨g, 0, none⟩ = some (.int .i64 (a : Int)) := hg.c0
      have hg1 : wr.cell? ⟨g, 1, none⟩ = some (.int .i64 (k : Int)) := hg.c1
      have HMU := Lib.hid (mu_yes (n := n) (show Own2 wr g (a : Int) (k : Int) from hg))
      have HR := Lib.hid hr
      have HF2 := Lib.hid hF2
      simp only [List.isEmpty_cons, Bool.not_false]
      by_cases hck : c ≤ k
      · have hck1 : (c : Int) ≤ (k : Int) := by omega
        have hc0 := hr.c0
        have hcc := hr.c1
        have hf0 := hr.f 0
        have hf1 := hr.f 1
        clear hfit hb hr hF hg hF2
        go_wp2
        refine bodyPost_ret (v := fv (some (a, c))) ?_ rfl ⟨?_, ?_⟩
        · simp [results, Tryz.results109, go_sem, hc0, hcc, fv]
        · rw [HE.out, fit_yes hck]
        · exact (HB3.out.setCell (Nat.le_refl _) _).setCell (Nat.le_refl _) _
      · have hck1 : ¬ (c : Int) ≤ (k : Int) := by omega
        have hba := (Below.refl wr.heap.size wr).alloc (Nat.le_refl _) (.cells #[.int .i64 (a : Int), .int .i64 (k : Int)] 59)
        have hb4 := hb.alloc hb.size (.cells #[.int .i64 (a : Int), .int .i64 (k : Int)] 59)
        have HB4 := Lib.hid hb4
        have HO4 := Lib.hid (own2_new wr (a : Int) (k : Int) 59)
        have HR4 := Lib.hid (hr.keep hba)
        obtain ⟨d, hd⟩ : ∃ d, d = a + k := ⟨_, rfl⟩
        rw [← hd] at hF2
        have HC := Lib.hid (freeFrom_any (HM0.out.keep hb4) (HT0.out.below hb4 HT0.out.lt) d m (by omega) hF2)
        have hsum : (a : Int) + (k : Int) = (d : Int) := by omega
        have hd2 : d ≤ n := by omega
        have HF3 := Lib.hid hF2
        have HD := Lib.hid hd
        have hcl0 := HO4.out.c0
        have hcl1 := HO4.out.c1
        have hfl0 := HO4.out.f 0
        have hfl1 := HO4.out.f 1
        have hrl : w.heap.size < wr.heap.size := hr.lt
        clear hfit hb hr hF hg hF2 hba hb4 hd
        go_wp2_with fail
        generalize wr.alloc (.cells #[.int .i64 (a : Int), .int .i64 (k : Int)] 59) = w3 at *
        generalize wr.heap.size = z at *
        refine HC.out.mono ?_
        rintro e w4 ⟨rfl, hb⟩
        have HB5 := Lib.hid (HB4.out.trans (hb.mono HB4.out.size))
        have HO5 := Lib.hid (HO4.out.keep hb)
        have HR5 := Lib.hid (HR4.out.keep hb)
        have hfz0 := HO5.out.f 0
        have hfz1 := HO5.out.f 1
        have hcz0 := HO5.out.c0
        have hcz1 := HO5.out.c1
        clear hb hcl0 hcl1 hfl0 hfl1 hsum
        go_wp2
        have HX := Lib.hid (HO5.out.put ((hd m).1 : Int) ((hd m).2 : Int))
        have HXR := Lib.hid (HR5.out.keepN (((Below.refl (w.heap.size + 1) w4).setCell (p := ⟨z, 0, none⟩) hrl (.int .i64 ((hd m).1 : Int))).setCell (p := ⟨z, 1, none⟩) hrl (.int .i64 ((hd m).2 : Int))) (Nat.lt_succ_self _))
        have HXB := Lib.hid ((HB5.out.setCell (p := ⟨z, 0, none⟩) (Nat.le_of_lt hrl) (.int .i64 ((hd m).1 : Int))).setCell (p := ⟨z, 1, none⟩) (Nat.le_of_lt hrl) (.int .i64 ((hd m).2 : Int)))
        refine ⟨⟨z, d, m, rfl, rfl, ?_, HF3.out, HX.out, HXR.out, hrl, HXB.out, hd2⟩, ?_⟩
        · rw [HE.out, fit_no hck]
        · rw [HMU.out]
          exact mu_less HX.out HF3.out (by have := HD.out; omega) (by omega)
end
end Rn
end Go.Proofs.YtleehhpodgbomaaGreatDoor
/- Rows of runs that grow; all free runs; how many blocks they have. -/
namespace Go.Proofs.YtleehhpodgbomaaGreatDoor
open Go.RowKit Go.MapKept
namespace Rn
open Bm

/-- runs as cells -/
def rcells (l : List Run) : List Value := l.flatMap fun r => [.int .i64 (r.1 : Int), .int .i64 (r.2 : Int)]
theorem rcells_get {l : List Run} : ∀ {j : Nat} (h : j < l.length), (rcells l)[j * 2]? = some (.int .i64 (l[j].1 : Int)) ∧ (rcells l)[j * 2 + 1]? = some (.int .i64 (l[j].2 : Int)) := by
  induction l with
  | nil => intro j h; simp at h
  | cons f l ih =>
    intro j h
    cases j with
    | zero => exact ⟨rfl, rfl⟩
    | succ j =>
      have := ih (j := j) (by simpa using h)
      have e : (j + 1) * 2 = j * 2 + 1 + 1 := by omega
      rw [e]
      simpa [rcells] using this
theorem rcells_len (l : List Run) : (rcells l).length = l.length * 2 := by
  induction l with
  | nil => rfl
  | cons f l ih => simp only [rcells, List.flatMap_cons, List.length_append, List.length_cons, List.length_nil] at *; omega
theorem rcells_snoc (l : List Run) (r : Run) : rcells (l ++ [r]) = rcells l ++ [.int .i64 (r.1 : Int), .int .i64 (r.2 : Int)] := by
  unfold rcells
  rw [List.flatMap_append]
  simp
theorem own_rs {W : World} {B n c : Nat} {t : TypeId} {G : Option Addr} {l : List Run} (h : W.ownsRow B t 2 (.slice G n c) n (rcells l)) : Rs W B G l ∧ l.length = n := by
  have hl : l.length = n := by
    have := h.1
    rw [rcells_len] at this
    omega
  refine ⟨⟨fun j hj => ?_⟩, hl⟩
  obtain ⟨f0, f1⟩ := rcells_get hj
  rcases h.2 with ⟨e, h0⟩ | ⟨g, cap, cur, e, hB, hh, _, _, _, ht⟩
  · omega
  · injection e with e
    subst e
    have key : ∀ i, i < n * 2 → W.cell? ⟨g, 0 + i, none⟩ = (rcells l)[i]? := fun i hi => by
      have := congrArg (·[i]?) ht
      rw [List.getElem?_take, if_pos hi] at this
      unfold World.cell?
      rw [hh, Nat.zero_add]
      simp only
      rw [← Array.getElem?_toList]
      exact this
    exact ⟨g, 0, rfl, (Array.getElem?_eq_some_iff.1 hh).1, hB, (key _ (by omega)).trans f0, (key (j * 2 + 1) (by omega)).trans f1⟩
theorem row_slice2 {B n : Nat} {W : World} {e : TypeId} {v : Value} {xs : List Value} (h : W.ownsRow B e 2 v n xs) : ∃ G c, v = .slice G n c := by
  rcases h.2 with ⟨e, h0⟩ | ⟨g, cap, cur, e, _⟩
  · exact ⟨none, 0, by rw [e, h0]⟩
  · exact ⟨_, _, e⟩
theorem row_base_lt2 {w : World} {B : Nat} {e : TypeId} {n : Nat} {v : Value} {xs : List Value} (h : w.ownsRow B e 2 v n xs) {g : Nat} (hg : v.ownBlock = some g) : B ≤ g := (World.ownsRow.lt h g hg).1
/-- a row of the call's own stays -/
theorem own_keepN2 {w w' : World} {B N n : Nat} {t : TypeId} {v : Value} {xs : List Value} (h : w.ownsRow B t 2 v n xs) (hb : Below N w w') (hN : ∀ g, v.ownBlock = some g → g < N) : w'.ownsRow B t 2 v n xs := by
  rcases h with ⟨h1, h2⟩
  refine ⟨h1, ?_⟩
  rcases h2 with h0 | ⟨g, cap, cur, e, hB, hh, hr⟩
  · exact .inl h0
  · exact .inr ⟨g, cap, cur, e, hB, (hb.block g (hN g (by rw [e]; rfl))).trans hh, hr⟩
theorem own_keep2 {w w' : World} {B n : Nat} {t : TypeId} {v : Value} {xs : List Value} (h : w.ownsRow B t 2 v n xs) (hb : Below w.heap.size w w') : w'.ownsRow B t 2 v n xs :=
  own_keepN2 h hb (fun g hg => (World.ownsRow.lt h g hg).2)
theorem Own2.grown {w w' : World} {b : Nat} {x y : Int} {row : Option Nat} (h : Own2 w b x y) (hg : w.grownBy w' row) (hne : some b ≠ row) : Own2 w' b x y :=
  ⟨Nat.lt_of_lt_of_le h.lt hg.size, hg.cell h.c0 hne, hg.cell h.c1 hne, fun o => (World.frozen?_of_block (w := w) (a := ⟨b, o, none⟩) (hg.block b h.lt hne)).trans (h.f o)⟩

/-- the last run of a row of the call's own is longer -/
theorem own_last {W : World} {B n c g : Nat} {t : TypeId} {S : List Run} {a x x' : Nat} (h : W.ownsRow B t 2 (.slice (some ⟨g, 0, none⟩) n c) n (rcells (S ++ [(a, x)]))) :
    (W.setCell ⟨g, S.length * 2 + 1, none⟩ (.int .i64 (x' : Int))).ownsRow B t 2 (.slice (some ⟨g, 0, none⟩) n c) n (rcells (S ++ [(a, x')])) := by
  obtain ⟨h1, h2⟩ := h
  have hn : n = S.length + 1 := by
    rw [rcells_len, List.length_append] at h1
    simp only [List.length_cons, List.length_nil] at h1
    omega
  rcases h2 with ⟨e, _⟩ | ⟨g', cap, cur, e, hB, hh, hc, hm, hsz, ht⟩
  · cases e
  · injection e with e _ e2
    subst e2
    injection e with e
    injection e with e
    subst e
    have hr : W.rowIs g t cur.size (fun i => cur[i]?.getD (.bool false)) := ⟨cur, hh, rfl, fun i hi => by simp [hi]⟩
    obtain ⟨cur', hh', hsz', hg'⟩ := hr.set (S.length * 2 + 1) (.int .i64 (x' : Int))
    refine ⟨by rw [rcells_len, List.length_append, hn]; rfl, .inr ⟨g, c, cur', rfl, hB, hh', hc, hm, hsz'.trans hsz, ?_⟩⟩
    apply List.ext_getElem?
    intro i
    have key := congrArg (·[i]?) ht
    simp only [List.getElem?_take] at key
    rw [rcells_snoc] at key ⊢
    rw [List.getElem?_take]
    split
    · rename_i hi
      rw [if_pos hi, Array.getElem?_toList] at key
      rw [Array.getElem?_toList, hg' i (by omega)]
      show some (if i = S.length * 2 + 1 then Value.int .i64 (x' : Int) else cur[i]?.getD (.bool false)) = _
      by_cases hii : i = S.length * 2 + 1
      · subst hii
        rw [if_pos rfl, List.getElem?_append_right (by rw [rcells_len]; omega), rcells_len, show S.length * 2 + 1 - S.length * 2 = 1 by omega]
        rfl
      · rw [if_neg hii, key]
        by_cases hlt : i < S.length * 2
        · rw [List.getElem?_append_left (by rw [rcells_len]; exact hlt), List.getElem?_append_left (by rw [rcells_len]; exact hlt), List.getElem?_eq_getElem (by rw [rcells_len]; exact hlt)]
          rfl
        · obtain rfl : i = S.length * 2 := by omega
          rw [List.getElem?_append_right (by rw [rcells_len]; omega), List.getElem?_append_right (by rw [rcells_len]; omega), rcells_len, Nat.sub_self]
          rfl
    · rename_i hi
      rw [List.getElem?_eq_none]
      rw [List.length_append, rcells_len]
      simp only [List.length_cons, List.length_nil]
      omega
theorem own_some {W : World} {B n c : Nat} {t : TypeId} {G : Option Addr} {xs : List Value} (h : W.ownsRow B t 2 (.slice G n c) n xs) (hn : 1 ≤ n) : ∃ g, G = some ⟨g, 0, none⟩ ∧ g < W.heap.size ∧ B ≤ g ∧ ∀ o, W.frozen? ⟨g, o, none⟩ = false := by
  rcases h.2 with ⟨_, e⟩ | ⟨g, cap, cur, e, hB, hh, _⟩
  · omega
  · injection e with e
    exact ⟨g, e, (Array.getElem?_eq_some_iff.1 hh).1, hB, fun o => (show W.rowIs g t cur.size (fun i => cur[i]?.getD (.bool false)) from ⟨cur, hh, rfl, fun i hi => by simp [hi]⟩).frozen o⟩

theorem run_info : (Tryz.prog.info? 59).map (fun i => (i.zero, i.size, i.bytes)) = some (some (.agg #[.int .i64 0, .int .i64 0]), 2, 16) := by kernel_rfl
theorem cells_two_new (w : World) (x y : Value) (t : TypeId) : ∀ j u, [x, y][j]? = some u → (w.alloc (.cells #[x, y] t)).cell? ((⟨w.heap.size, 0, none⟩ : Addr).add j) = some u := by
  intro j u hj
  match j, hj with
  | 0, hj =>
    simp at hj
    subst hj
    simp [Addr.add]
  | 1, hj =>
    simp at hj
    subst hj
    simp [Addr.add]

/-- runs of the call's own -/
def GotR (t : TypeId) (w wr : World) (G : Option Addr) (n gc : Nat) (l : List Run) : Prop := wr.ownsRow w.heap.size t 2 (.slice G n gc) n (rcells l) ∧ Below w.heap.size w wr
/-- runs that a call answers -/
def RsR (w : World) (l : List Run) (e : Ending) (w' : World) : Prop := ∃ (G : Option Addr) (gc : Nat), e = .returned (.slice G l.length gc) ∧ Rs w' w.heap.size G l ∧ Below w.heap.size w w'

theorem frs_len (f : Nat → Bool) : ∀ n, (frs f n).length ≤ n
  | 0 => Nat.le_refl _
  | b + 1 => by
    have ih := frs_len f b
    rw [frs]
    split
    · omega
    · unfold ext
      split
      · split
        · simp; omega
        · simp; omega
      · simp; omega

/-- between two rounds of Free -/
def Rf (w wr : World) (f : Nat → Bool) (n g s : Nat) (L m : List Run) (G : Option Addr) (k gc : Nat) : Prop :=
  From f n s m ∧ Own2 wr g ((hd m).1 : Int) ((hd m).2 : Int) ∧ w.heap.size ≤ g ∧ GotR 59 w wr G k gc (L.take k) ∧ k ≤ L.length ∧ L.drop k = m ∧ s ≤ n ∧ some g ≠ (Value.slice G k gc).ownBlock

section
variable {w : World} {p q K C n : Nat} {f : Nat → Bool}
set_option maxRecDepth 100000 in
set_option maxHeartbeats 2000000 in
theorem free_any' (h : Mp w p q K C n f) (hT : Tab w) :
    Calls Tryz.prog 110 #[.pointer (some ⟨p, 0, none⟩)] w (RsR w (frs f n)) := by
  have hmx := h.max
  have HM0 := Lib.hid h
  have HT0 := Lib.hid hT
  have hlen := frs_len f n
  have hF := from_frs f n
  generalize frs f n = L at *
  have H0 := Lib.hid (freeFrom_any h hT 0 L (by omega) hF)
  have HF := Lib.hid hF
  obtain ⟨i0, hi0, hz0, hz1, hz2⟩ := info_parts run_info
  clear h hT hF
  go_enter Tryz.func110, Tryz.ntmps110
  go_wp2_with fail
  refine H0.out.mono ?_
  rintro e w2 ⟨rfl, hb⟩
  have HB2 := Lib.hid hb
  clear hb
  go_wp2
  go_loopw [3, 4, 5] (fun sv gv bv wr => ∃ (g s k gc : Nat) (G : Option Addr) (m : List Run), sv = .slice G k gc ∧ gv = .pointer (some ⟨g, 0, none⟩) ∧ bv = .bool (!m.isEmpty) ∧ Rf w wr f n g s L m G k gc) (fun _ gv bv wr => mu n gv bv wr)
  case atStart =>
    refine ⟨w2.heap.size, 0, 0, 0, none, L, rfl, rfl, rfl, HF.out, own2_new w2 _ _ _, HB2.out.size, ⟨⟨by rw [List.take_zero]; rfl, .inl ⟨rfl, rfl⟩⟩, HB2.out.alloc HB2.out.size _⟩, Nat.zero_le _, rfl, Nat.zero_le _, by simp [Value.ownBlock]⟩
  case round =>
    obtain ⟨g, s, k, gc, G, m, rfl, rfl, rfl, hF, hg, hwg, hgot, hk, hdr, hsn, hne⟩ := hrel
    cases m with
    | nil =>
      have hk2 : k = L.length := by
        have := congrArg List.length hdr
        simp at this
        omega
      subst hk2
      rw [List.take_length] at hgot
      obtain ⟨hrs, -⟩ := own_rs hgot.1
      have HE := Lib.hid (show RsR w L (.returned (.slice G L.length gc)) wr from ⟨G, gc, rfl, hrs, hgot.2⟩)
      clear hF hg hgot hdr hne hrs hk
      simp only [List.isEmpty_nil, Bool.not_true]
      go_wp2
      go_ret
      exact HE.out
    | cons r m =>
      obtain ⟨a, c⟩ := r
      obtain ⟨_, h1, h2, h3, _, hF2, _⟩ := hF.next_some
      have hlt : k < L.length := by
        have := congrArg List.length hdr
        simp at this
        omega
      have HTK := Lib.hid (show L.take (k + 1) = L.take k ++ [(a, c)] ∧ L.drop (k + 1) = m from by
        have e : L[k] :: L.drop (k + 1) = (a, c) :: m := by rw [← List.drop_eq_getElem_cons hlt]; exact hdr
        injection e with e1 e2
        exact ⟨by rw [List.take_succ_eq_append_getElem hlt, e1], e2⟩)
      have hg0 : wr.cell? ⟨g, 0, none⟩ = some (.int .i64 (a : Int)) := hg.c0
      have hg1 : wr.cell? ⟨g, 1, none⟩ = some (.int .i64 (c : Int)) := hg.c1
      have HMU := Lib.hid (mu_yes (n := n) (show Own2 wr g (a : Int) (c : Int) from hg))
      have HG := Lib.hid hgot
      have HGG := Lib.hid hg
      have hkn : k ≤ 65534 := by omega
      have HOWN := Lib.hid (hgot.1.alloc (.cells #[.int .i64 (a : Int), .int .i64 (c : Int)] 59))
      have HB3 := Lib.hid (hgot.2.alloc hgot.2.size (.cells #[.int .i64 (a : Int), .int .i64 (c : Int)] 59))
      have HCT := Lib.hid (cells_two_new wr (.int .i64 (a : Int)) (.int .i64 (c : Int)) 59)
      clear hF hg hgot hdr hk
      simp only [List.isEmpty_cons, Bool.not_false]
      have hgl := HGG.out.lt
      obtain ⟨d, hd⟩ : ∃ d, d = a + c := ⟨_, rfl⟩
      rw [← hd] at hF2
      have hsum : (a : Int) + (c : Int) = (d : Int) := by omega
      have hdn : d ≤ n := by omega
      have HD := Lib.hid hd
      have HF3 := Lib.hid hF2
      clear hF2 hd
      go_wp2_with (at_builtin; refine wpList_append_own_at _ rfl (.tmp 22) (.tmp 24) 53 rfl w.heap.size 59 i0 (.agg #[.int .i64 0, .int .i64 0]) 2 16 Tryz.underlying53 hi0 hz0 hz1 hz2 rfl (by decide) (.slice G k gc) k (rcells (L.take k)) rfl HOWN.out ⟨wr.heap.size, 0, none⟩ 1 1 [.int .i64 (a : Int), .int .i64 (c : Int)] rfl rfl HCT.out (by simp [Value.oneCell']) (by unfold maxLen; omega) (by omega) (by have := HB3.out.size; omega) ?_
                   intro v' w3 hown3 hgr3 _ _
                   obtain ⟨G', gc', rfl⟩ := row_slice2 hown3
                   have HO3 := Lib.hid hown3
                   have HG3 := Lib.hid hgr3
                   have HB4 := Lib.hid (HB3.out.grown hgr3 HB3.out.size (fun k hk => row_base_lt2 HG.out.1 hk))
                   have HL3 := Lib.hid (fun g hg => (World.ownsRow.lt hown3 g hg).2)
                   have HGG3 := Lib.hid ((HGG.out.keep ((Below.refl _ _).alloc (Nat.le_refl _) _)).grown hgr3 hne)
                   have hg30 : w3.cell? ⟨g, 0, none⟩ = some (.int .i64 (a : Int)) := HGG3.out.c0
                   have hg31 : w3.cell? ⟨g, 1, none⟩ = some (.int .i64 (c : Int)) := HGG3.out.c1
                   have hg3l := HGG3.out.lt
                   clear hown3 hgr3 hg0 hg1)
      have hba := (Below.refl w3.heap.size w3).alloc (Nat.le_refl _) (.cells #[.int .i64 (a : Int), .int .i64 (c : Int)] 59)
      have HB5 := Lib.hid (HB4.out.alloc HB4.out.size (.cells #[.int .i64 (a : Int), .int .i64 (c : Int)] 59))
      have HOZ := Lib.hid (own2_new w3 (a : Int) (c : Int) 59)
      have HO4 := Lib.hid (own_keep2 HO3.out hba)
      have HC := Lib.hid (freeFrom_any (HM0.out.keep HB5.out) (HT0.out.below HB5.out HT0.out.lt) d m (by omega) HF3.out)
      have hzw : w.heap.size ≤ w3.heap.size := HB4.out.size
      clear hba hg30 hg31
      generalize w3.alloc (.cells #[.int .i64 (a : Int), .int .i64 (c : Int)] 59) = w4 at *
      generalize w3.heap.size = z at *
      (with_reducible refine HC.out.mono ?_)
      rintro e w5 ⟨rfl, hb⟩
      have HB6 := Lib.hid (HB5.out.trans (hb.mono HB5.out.size))
      have HOZ5 := Lib.hid (HOZ.out.keep hb)
      have HO5 := Lib.hid (own_keep2 HO4.out hb)
      have hfz0 := HOZ5.out.f 0
      have hfz1 := HOZ5.out.f 1
      have hcz0 := HOZ5.out.c0
      have hcz1 := HOZ5.out.c1
      clear hb hsum
      go_wp2
      have HX := Lib.hid (HOZ5.out.put ((hd m).1 : Int) ((hd m).2 : Int))
      have HXO := Lib.hid (own_keepN2 HO5.out (((Below.refl z w5).setCell (p := ⟨z, 0, none⟩) (Nat.le_refl _) (.int .i64 ((hd m).1 : Int))).setCell (p := ⟨z, 1, none⟩) (Nat.le_refl _) (.int .i64 ((hd m).2 : Int))) HL3.out)
      have HXB := Lib.hid ((HB6.out.setCell (p := ⟨z, 0, none⟩) hzw (.int .i64 ((hd m).1 : Int))).setCell (p := ⟨z, 1, none⟩) hzw (.int .i64 ((hd m).2 : Int)))
      refine ⟨⟨z, d, k + 1, gc', G', m, rfl, rfl, rfl, HF3.out, HX.out, hzw, ⟨?_, HXB.out⟩, by omega, HTK.out.2, by omega, fun e => Nat.lt_irrefl z (HL3.out z e.symm)⟩, ?_⟩
      · rw [HTK.out.1, rcells_snoc]
        exact HXO.out
      · rw [HMU.out]
        exact mu_less HX.out HF3.out (by have := HD.out; omega) (by omega)
end
end Rn
end Go.Proofs.YtleehhpodgbomaaGreatDoor
/- How many blocks runs have; which runs a Take is of; Take. -/
namespace Go.Proofs.YtleehhpodgbomaaGreatDoor
open Go.RowKit Go.MapKept
namespace Rn
open Bm

theorem tot_append (l l' : List Run) : tot (l ++ l') = tot l + tot l' := by simp [tot]
theorem tot_take_le (l : List Run) (k : Nat) : tot (l.take k) ≤ tot l := by
  conv => rhs; rw [← List.take_append_drop k l, tot_append]
  omega
theorem tot_take {l : List Run} {k : Nat} (h : k < l.length) : tot (l.take (k + 1)) = tot (l.take k) + l[k].2 := by
  rw [List.take_succ_eq_append_getElem h, tot_snoc]

section
variable {w : World} {p q K C n : Nat} {f : Nat → Bool}
theorem cut_len_take (l : List Run) (k c : Nat) : (cut (l.take k) c).length ≤ k := by
  have := (cut_le (l.take k) c).2
  rw [List.length_take] at this
  omega
set_option maxRecDepth 100000 in
set_option maxHeartbeats 1000000 in
theorem choose_cut (h : Mp w p q K C n f) (hT : Tab w) (c : Nat) (hc : c ≤ 65534) (hFit : Calls Tryz.prog 109 #[.pointer (some ⟨p, 0, none⟩), .int .i64 (c : Int)] w fun e w' => e = .returned (fv none) ∧ Below w.heap.size w w') :
    Calls Tryz.prog 80 #[.pointer (some ⟨p, 0, none⟩), .int .i64 (c : Int)] w (RsR w (cut (frs f n) c)) := by
  have hmx := h.max
  have hlen := frs_len f n
  have HM0 := Lib.hid h
  have HT0 := Lib.hid hT
  have HF := Lib.hid hFit
  have HFR := Lib.hid (fun (w' : World) (h : Mp w' p q K C n f) (hT : Tab w') => free_any' h hT)
  obtain ⟨i0, hi0, hz0, hz1, hz2⟩ := info_parts run_info
  clear h hT hFit
  generalize frs f n = L at *
  unfold fv at HF
  simp only at HF
  go_enter Tryz.func80, Tryz.ntmps80
  go_wp2_with fail
  refine HF.out.mono ?_
  rintro e w1 ⟨rfl, hb⟩
  have HB1 := Lib.hid hb
  clear hb
  go_wp2_with fail
  have HB2 := Lib.hid (HB1.out.alloc HB1.out.size (.cells #[.int .i64 0, .int .i64 0] 59))
  have HC := Lib.hid (HFR.out _ (HM0.out.keep HB2.out) (HT0.out.below HB2.out HT0.out.lt))
  generalize w1.alloc (.cells #[.int .i64 0, .int .i64 0] 59) = w2 at *
  refine HC.out.mono ?_
  rintro e w3 ⟨F, fc, rfl, hrs, hb⟩
  have HRS := Lib.hid (hrs.less HB2.out.size)
  have HB3 := Lib.hid (HB2.out.trans (hb.mono HB2.out.size))
  clear hrs hb
  go_wp2
  go_loopw [1, 7, 22] (fun cv sv i wr => ∃ (k m gc : Nat) (G : Option Addr), k ≤ L.length ∧ i = .int .i64 (k : Int) ∧ cv = .int .i64 ((c - tot (cut (L.take k) c) : Nat) : Int) ∧ sv = .slice G m gc ∧ GotR 59 w3 wr G m gc (cut (L.take k) c)) (fun _ _ i _ => L.length - (intOf i).toNat)
  case atStart =>
    exact ⟨0, 0, 0, none, Nat.zero_le _, rfl, rfl, rfl, ⟨by rw [List.take_zero]; rfl, .inl ⟨rfl, rfl⟩⟩, Below.refl _ _⟩
  case round =>
    obtain ⟨k, m, gc, G, hk, rfl, rfl, rfl, hgot⟩ := hrel
    by_cases hlt : k < L.length
    · have hrs := HRS.out.keep hgot.2
      obtain ⟨b, o, rfl, hbb, _, hc0, hc1⟩ := hrs.at' k hlt
      have hct := cut_take (c := c) hlt
      have hcf := cut_full (l := L) (k := k) (c := c)
      have hcl := cut_len_take L k c
      have htl := (cut_le (L.take k) c).1
      obtain ⟨hrs2, hml⟩ := own_rs hgot.1
      have HG := Lib.hid hgot
      have HCT := Lib.hid hct
      have HCF := Lib.hid hcf
      have hj0 : (0 : Int) ≤ (k : Int) := by omega
      have hj1 : (k : Int) < (L.length : Int) := by omega
      clear hgot hrs hct hcf
      generalize L[k] = r at *
      obtain ⟨a, x⟩ := r
      generalize cut (L.take k) c = S at *
      generalize hu : c - tot S = u at *
      have huc : u ≤ c := by omega
      have HU := Lib.hid hu
      have HSL := Lib.hid hml
      have hmn : m ≤ 65534 := by omega
      clear hu hml htl hcl
      simp only at hc0 hc1 HCT
      by_cases hu0 : u = 0
      · subst hu0
        have HX := Lib.hid (show RsR w (cut L c) (.returned (.slice G m gc)) (wr.alloc (.cells #[.int .i64 (a : Int), .int .i64 (x : Int)] 59)) from by
          rw [HCF.out rfl, ← HSL.out]
          exact ⟨G, gc, rfl, (hrs2.keep ((Below.refl _ _).alloc (Nat.le_refl _) _)).less HB3.out.size, (HB3.out.trans (HG.out.2.mono HB3.out.size)).alloc (by have := HB3.out.size; have := HG.out.2.size; omega) _⟩)
        clear hrs2
        go_wp2
        go_ret
        exact HX.out
      · have hu1 : ¬ (u : Int) = 0 := by omega
        clear hrs2
        obtain ⟨v, hv⟩ : ∃ v, v = min x u := ⟨_, rfl⟩
        have HT2 := Lib.hid (show cut (L.take (k + 1)) c = S ++ [(a, v)] ∧ c - tot (S ++ [(a, v)]) = u - v from by
          have h1 := HU.out
          refine ⟨by rw [HCT.out, if_neg hu0, hv], ?_⟩
          rw [tot_snoc]
          simp only
          omega)
        have hvu : v ≤ u := by omega
        have HV := Lib.hid hv
        clear hv
        have HSUB := Lib.hid (show (u : Int) - (v : Int) = ((u - v : Nat) : Int) by omega)
        generalize u - v = u2 at *
        have HGL := Lib.hid (fun g hg => (World.ownsRow.lt HG.out.1 g hg).2)
        have HGW := Lib.hid HG.out.2.size
        by_cases hxu : x ≤ u
        · have hxu1 : (x : Int) ≤ (u : Int) := by omega
          obtain rfl : v = x := by rw [HV.out]; omega
          clear hxu HV
          have HOZ := Lib.hid (own2_new wr (a : Int) (v : Int) 59)
          have HBA := Lib.hid ((Below.refl wr.heap.size wr).alloc (Nat.le_refl _) (.cells #[.int .i64 (a : Int), .int .i64 (v : Int)] 59))
          have HOWN := Lib.hid ((own_keep2 HG.out.1 HBA.out).alloc (.cells #[.int .i64 (a : Int), .int .i64 (v : Int)] 59))
          have HB4 := Lib.hid ((HG.out.2.trans (HBA.out.mono HG.out.2.size)).alloc (by have := HBA.out.size; have := HG.out.2.size; omega) (.cells #[.int .i64 (a : Int), .int .i64 (v : Int)] 59))
          have HCN := Lib.hid (cells_two_new (wr.alloc (.cells #[.int .i64 (a : Int), .int .i64 (v : Int)] 59)) (.int .i64 (a : Int)) (.int .i64 (v : Int)) 59)
          rw [World.size_alloc] at HCN
          go_wp2_with (at_builtin; refine wpList_append_own_at _ rfl (.tmp 33) (.tmp 35) 53 rfl w3.heap.size 59 i0 (.agg #[.int .i64 0, .int .i64 0]) 2 16 Tryz.underlying53 hi0 hz0 hz1 hz2 rfl (by decide) (.slice G m gc) m (rcells S) rfl HOWN.out ⟨wr.heap.size + 1, 0, none⟩ 1 1 [.int .i64 (a : Int), .int .i64 (v : Int)] rfl rfl HCN.out (by simp [Value.oneCell']) (by unfold maxLen; omega) (by omega) (by have := HB4.out.size; omega) ?_
                       intro v' w4 hown4 hgr4 _ _
                       obtain ⟨G', gc', rfl⟩ := row_slice2 hown4
                       have HO4 := Lib.hid hown4
                       have HZ4 := Lib.hid ((HOZ.out.keep ((Below.refl _ _).alloc (Nat.le_refl _) _)).grown hgr4 (fun e => Nat.lt_irrefl _ (HGL.out _ e.symm)))
                       have HB5 := Lib.hid (HB4.out.grown hgr4 HB4.out.size (fun k hk => row_base_lt2 HG.out.1 hk))
                       have hz41 : w4.cell? ⟨wr.heap.size, 1, none⟩ = some (.int .i64 (v : Int)) := HZ4.out.c1
                       clear hown4 hgr4)
          refine ⟨⟨k + 1, m + 1, gc', G', by omega, by go_num, ?_, rfl, ⟨?_, HB5.out⟩⟩, by simp [intOf]; omega⟩
          · rw [HT2.out.1, HT2.out.2, ← HSUB.out]
            try rw [Int.sub_self]
          · rw [HT2.out.1, rcells_snoc]
            exact HO4.out
        · have hxu1 : ¬ (x : Int) ≤ (u : Int) := by omega
          obtain rfl : v = u := by rw [HV.out]; omega
          clear hxu HV
          have HOZ := Lib.hid (own2_new wr (a : Int) (v : Int) 59)
          have HBA := Lib.hid ((Below.refl wr.heap.size wr).alloc (Nat.le_refl _) (.cells #[.int .i64 (a : Int), .int .i64 (v : Int)] 59))
          have HOWN := Lib.hid ((own_keep2 HG.out.1 HBA.out).alloc (.cells #[.int .i64 (a : Int), .int .i64 (v : Int)] 59))
          have HB4 := Lib.hid ((HG.out.2.trans (HBA.out.mono HG.out.2.size)).alloc (by have := HBA.out.size; have := HG.out.2.size; omega) (.cells #[.int .i64 (a : Int), .int .i64 (v : Int)] 59))
          have HCN := Lib.hid (cells_two_new (wr.alloc (.cells #[.int .i64 (a : Int), .int .i64 (v : Int)] 59)) (.int .i64 (a : Int)) (.int .i64 (v : Int)) 59)
          rw [World.size_alloc] at HCN
          go_wp2_with (at_builtin; refine wpList_append_own_at _ rfl (.tmp 33) (.tmp 35) 53 rfl w3.heap.size 59 i0 (.agg #[.int .i64 0, .int .i64 0]) 2 16 Tryz.underlying53 hi0 hz0 hz1 hz2 rfl (by decide) (.slice G m gc) m (rcells S) rfl HOWN.out ⟨wr.heap.size + 1, 0, none⟩ 1 1 [.int .i64 (a : Int), .int .i64 (v : Int)] rfl rfl HCN.out (by simp [Value.oneCell']) (by unfold maxLen; omega) (by omega) (by have := HB4.out.size; omega) ?_
                       intro v' w4 hown4 hgr4 _ _
                       obtain ⟨G', gc', rfl⟩ := row_slice2 hown4
                       have HO4 := Lib.hid hown4
                       have HZ4 := Lib.hid ((HOZ.out.keep ((Below.refl _ _).alloc (Nat.le_refl _) _)).grown hgr4 (fun e => Nat.lt_irrefl _ (HGL.out _ e.symm)))
                       have HB5 := Lib.hid (HB4.out.grown hgr4 HB4.out.size (fun k hk => row_base_lt2 HG.out.1 hk))
                       have hz41 : w4.cell? ⟨wr.heap.size, 1, none⟩ = some (.int .i64 (v : Int)) := HZ4.out.c1
                       clear hown4 hgr4)
          refine ⟨⟨k + 1, m + 1, gc', G', by omega, by go_num, ?_, rfl, ⟨?_, HB5.out⟩⟩, by simp [intOf]; omega⟩
          · rw [HT2.out.1, HT2.out.2, ← HSUB.out]
            try rw [Int.sub_self]
          · rw [HT2.out.1, rcells_snoc]
            exact HO4.out
    · obtain rfl : k = L.length := by omega
      rw [List.take_length] at hgot
      obtain ⟨hrs2, hml⟩ := own_rs hgot.1
      have HX := Lib.hid (show RsR w (cut L c) (.returned (.slice G m gc)) wr from by
        rw [← hml]
        exact ⟨G, gc, rfl, hrs2.less HB3.out.size, HB3.out.trans (hgot.2.mono HB3.out.size)⟩)
      clear hgot hrs2 hml
      go_wp2
      go_ret
      exact HX.out

theorem cho_fit {L : List Run} {c : Nat} {r : Run} (hc : 1 ≤ c) (h : fit L c = some r) : cho L c = [r] := by
  unfold cho
  rw [if_pos hc, h]
theorem cho_none {L : List Run} {c : Nat} (h : c = 0 ∨ fit L c = none) : cho L c = cut L c := by
  unfold cho
  split
  · rename_i hc
    rw [h.resolve_left (by omega)]
  · rw [show c = 0 by omega, cut_zero]
set_option maxRecDepth 100000 in
set_option maxHeartbeats 1000000 in
theorem choose_any (h : Mp w p q K C n f) (hT : Tab w) (c : Nat) (hc : c ≤ 65534) :
    Calls Tryz.prog 80 #[.pointer (some ⟨p, 0, none⟩), .int .i64 (c : Int)] w (RsR w (cho (frs f n) c)) := by
  by_cases h0 : c = 0
  · rw [cho_none (.inl h0)]
    exact choose_cut h hT c hc (fit_low _ (by omega))
  · have hF := fit_any h hT c (by omega) (by omega)
    cases hf : fit (frs f n) c with
    | none =>
      rw [cho_none (.inr hf)]
      rw [hf] at hF
      exact choose_cut h hT c hc hF
    | some r =>
      obtain ⟨a, k⟩ := r
      rw [cho_fit (by omega) hf]
      rw [hf] at hF
      unfold fv at hF
      simp only at hF
      have HF := Lib.hid hF
      clear h hT hF hf
      go_enter Tryz.func80, Tryz.ntmps80
      go_wp2_with fail
      refine HF.out.mono ?_
      rintro e w1 ⟨rfl, hb⟩
      have HX := Lib.hid (show RsR w [(a, k)] (.returned (.slice (some ⟨w1.heap.size + 1, 0, none⟩) 1 1)) ((w1.alloc (.cells #[.int .i64 (a : Int), .int .i64 (k : Int)] 59)).alloc (.cells #[.int .i64 (a : Int), .int .i64 (k : Int)] 59)) from by
        have HO := own2_new (w1.alloc (.cells #[.int .i64 (a : Int), .int .i64 (k : Int)] 59)) (a : Int) (k : Int) 59
        rw [World.size_alloc] at HO
        refine ⟨_, _, rfl, ⟨fun j hj => ?_⟩, (hb.alloc hb.size _).alloc (by have := hb.size; simp; omega) _⟩
        obtain rfl : j = 0 := by simpa using hj
        exact ⟨w1.heap.size + 1, 0, rfl, HO.lt, by have := hb.size; omega, HO.c0, HO.c1⟩)
      clear hb
      go_wp2
      go_ret
      exact HX.out

/-- what a Take answers -/
def TkR (w : World) (p q K C n : Nat) (f : Nat → Bool) (l : List Run) (e : Ending) (w' : World) : Prop :=
  ∃ (G : Option Addr) (gc : Nat), e = .returned (.tuple #[.slice G l.length gc, .bool true]) ∧ Rs w' w.heap.size G l ∧ Mp w' p q K C n (fl f l) ∧ Chg q w w'

theorem cho_len (L : List Run) (c : Nat) : (cho L c).length ≤ L.length + 1 := by
  unfold cho
  split
  · split
    · simp
    · have := (cut_le L c).2
      omega
  · simp
set_option maxRecDepth 100000 in
set_option maxHeartbeats 1000000 in
theorem take_no (h : Mp w p q K C n f) (c : Int) (hc : c < 0 ∨ ((n - cnt f n : Nat) : Int) < c) :
    Calls Tryz.prog 46 #[.pointer (some ⟨p, 0, none⟩), .int .i64 c] w fun e w' => e = .returned (.tuple #[.slice none 0 0, .bool false]) ∧ ∃ k, w' = w.drewN k := by
  have HF := Lib.hid (free_any h)
  clear h
  by_cases h0 : c < 0
  · clear hc HF
    go_enter Tryz.func46, Tryz.ntmps46
    go_wp2
    go_ret2
    exact ⟨rfl, 0, rfl⟩
  · have h1 : ((n - cnt f n : Nat) : Int) < c := by omega
    generalize n - cnt f n = m at *
    clear hc
    go_enter Tryz.func46, Tryz.ntmps46
    go_wp2_with fail
    refine HF.out.mono ?_
    rintro e w1 ⟨rfl, k, rfl⟩
    go_wp2
    go_ret2
    exact ⟨rfl, k, rfl⟩
set_option maxRecDepth 100000 in
set_option maxHeartbeats 1000000 in
theorem take_yes (h : Mp w p q K C n f) (hT : Tab w) (hq : 0 ≠ q) (c : Nat) (hc : c ≤ n - cnt f n) :
    Calls Tryz.prog 46 #[.pointer (some ⟨p, 0, none⟩), .int .i64 (c : Int)] w (TkR w p q K C n f (cho (frs f n) c)) := by
  have hmx := h.max
  have hlen := frs_len f n
  have hcl := cho_len (frs f n) c
  have HUP := Lib.hid (up_cho f n c)
  have HF := Lib.hid (free_any h)
  have HC := Lib.hid (fun k => choose_any (h.drewN k) (hT.drewN k) c (by omega))
  have hql := h.row.lt
  have HM0 := Lib.hid h
  have HT0 := Lib.hid hT
  have hc1 : ¬ ((n - cnt f n : Nat) : Int) < (c : Int) := by omega
  clear h hT
  generalize cho (frs f n) c = l at *
  generalize n - cnt f n = m at *
  have hlen2 : l.length ≤ 65535 := by omega
  clear hc hcl hlen
  have HQ := Lib.hid hq
  clear hq
  go_enter Tryz.func46, Tryz.ntmps46
  go_wp2_with fail
  refine HF.out.mono ?_
  rintro e w1 ⟨rfl, kk, rfl⟩
  go_wp2_with fail
  refine (HC.out kk).mono ?_
  rintro e w1 ⟨G, gc, rfl, hrs, hb⟩
  have HRS := Lib.hid hrs
  have HB := Lib.hid (show Below w.heap.size w w1 from ⟨hb.os, hb.tape, hb.output, hb.size, hb.block⟩)
  clear hrs hb
  go_wp2
  go_loopw [22] (fun i wr => ∃ k : Nat, k ≤ l.length ∧ i = .int .i64 (k : Int) ∧ Mp wr p q K C n (fl f (l.take k)) ∧ Chg q w1 wr) (fun i _ => l.length - (intOf i).toNat)
  case atStart => exact ⟨0, Nat.zero_le _, rfl, by rw [List.take_zero]; exact HM0.out.keep HB.out, Chg.refl _ _⟩
  case round =>
    obtain ⟨k, hk, rfl, hM, hC⟩ := hrel
    by_cases hlt : k < l.length
    · have hql2 : q < w.heap.size := hql
      have hrs := HRS.out.chg hC hql2
      obtain ⟨b, o, rfl, hbb, _, hc0, hc1'⟩ := hrs.at' k hlt
      have HFL := Lib.hid (fl_range HUP.out hlt)
      have HM := Lib.hid (hM.keep ((Below.refl wr.heap.size wr).alloc (Nat.le_refl _) (.cells #[.int .i64 (l[k].1 : Int), .int .i64 (l[k].2 : Int)] 59)))
      have HCC := Lib.hid (hC.alloc (.cells #[.int .i64 (l[k].1 : Int), .int .i64 (l[k].2 : Int)] 59))
      have hrg := HUP.out.get hlt
      have hr1 : l[k].1 ≤ 65534 := by omega
      have hr2 : l[k].2 ≤ 65534 := by omega
      have hi0 : (0 : Int) ≤ (k : Int) := by omega
      have hi1 : (k : Int) < (l.length : Int) := by omega
      have HR := Lib.hid (range_any HM.out ((HT0.out.below HB.out HT0.out.lt).chg HCC.out HQ.out) (l[k].1 : Int) (l[k].2 : Int) (by omega) (by omega) (by omega) (by omega))
      clear hrs hM hC hrg
      generalize l[k].1 = a at *
      generalize l[k].2 = x at *
      go_wp2_with fail
      generalize wr.alloc (.cells #[.int .i64 (a : Int), .int .i64 (x : Int)] 59) = w2 at *
      refine HR.out.mono ?_
      rintro e w3 ⟨rfl, hM, hC⟩
      have HM3 := Lib.hid hM
      have HC3 := Lib.hid (HCC.out.trans hC)
      clear hM hC
      go_wp2
      refine ⟨⟨k + 1, by omega, by go_num, by rw [← HFL.out]; exact HM3.out, HC3.out⟩, by simp [intOf]; omega⟩
    · obtain rfl : k = l.length := by omega
      rw [List.take_length] at hM
      have HX := Lib.hid (show TkR w p q K C n f l (.returned (.tuple #[.slice G l.length gc, .bool true])) wr from ⟨G, gc, rfl, HRS.out.chg hC hql, hM, (chg_of_below HB.out q).trans hC⟩)
      clear hM hC
      go_wp2
      go_ret2
      exact HX.out
end
end Rn
end Go.Proofs.YtleehhpodgbomaaGreatDoor
/- The chapter's example; whether runs are the document's; a map drawn out of numbers. -/
namespace Go.Proofs.YtleehhpodgbomaaGreatDoor
open Go.RowKit Go.MapKept
namespace Rn
open Bm

/-! The example. -/
def ex1 : Nat → Bool := (tn 6 true (fun _ => false) [1, 4]).1
theorem ex1_two : (tn 6 true (fun _ => false) [1, 4]).2 = 2 := by decide +kernel
theorem ex1_cho : cho (frs ex1 6) 3 = [(0, 1), (2, 2)] := by decide +kernel
theorem ex1_cnt : cnt ex1 6 = 2 := by decide +kernel

set_option maxRecDepth 100000 in
set_option maxHeartbeats 2000000 in
theorem lives_any (w : World) (hT : Tab w) : Calls Tryz.prog 25 #[] w fun e w' => e = .returned (.bool true) ∧ Below w.heap.size w w' := by
  have hlt := hT.lt
  have HT := Lib.hid hT
  have HN := Lib.hid (new_any 6 6 1 (by decide) (by decide) w)
  have HL := Lib.hid (fun (w' : World) (h : Tab w') => Bm.lives_any w' h)
  clear hT
  go_enter Tryz.func25, Tryz.ntmps25
  go_wp2_with fail
  refine HN.out.mono ?_
  rintro e w1 ⟨rfl, hM, hb1⟩
  have HM := Lib.hid hM
  have HB := Lib.hid hb1
  clear hM hb1
  go_wp2_with fail
  refine (HL.out _ (HT.out.below HB.out hlt)).mono ?_
  rintro e w2 ⟨rfl, hb2⟩
  have HM2 := Lib.hid (HM.out.keep hb2)
  have HB2 := Lib.hid (HB.out.trans (hb2.mono HB.out.size))
  have hsz : w.heap.size < w2.heap.size := HM2.out.row.lt
  clear hb2
  have hmA := HM2.out.keep ((Below.refl _ _).alloc (Nat.le_refl _) (.cells #[.int .i64 1, .int .i64 4] 3))
  have hput := put_any hmA (some ⟨w2.heap.size, 0, none⟩) 2 [1, 4] (nts_cells w2 [1, 4] (by intro x hx; simp at hx; omega) (by decide) HM2.out.row.lt)
  rw [ex1_two] at hput
  have HP := Lib.hid (show Calls Tryz.prog 45 #[.pointer (some ⟨w.heap.size + 1, 0, none⟩), .slice (some ⟨w2.heap.size, 0, none⟩) 2 2] (w2.alloc (.cells #[.int .i64 1, .int .i64 4] 3)) fun e w' => e = .returned (.int .i64 2) ∧ Mp w' (w.heap.size + 1) w.heap.size 1 1 6 ex1 ∧ Chg w.heap.size (w2.alloc (.cells #[.int .i64 1, .int .i64 4] 3)) w' from hput)
  clear hmA hput
  go_wp2_with fail
  refine HP.out.mono ?_
  rintro e w3 ⟨rfl, hM3, hC3⟩
  have HM3 := Lib.hid hM3
  have HC3 := Lib.hid (((Chg.refl w.heap.size w2).alloc _).trans hC3)
  have HB3 := Lib.hid (HB2.out.trans (HC3.out.below (Nat.le_of_lt hsz) (Nat.le_refl _)))
  clear hM3 hC3
  have htk := take_yes HM3.out (HT.out.below HB3.out hlt) (Nat.ne_of_lt hlt) 3 (by rw [ex1_cnt]; decide)
  rw [ex1_cho] at htk
  have HTK := Lib.hid htk
  clear htk
  go_wp2_with fail
  refine HTK.out.mono ?_
  rintro e w4 ⟨G, gc, rfl, hrs, hM4, hC4⟩
  have HB4 := Lib.hid (HB3.out.trans (hC4.below HB3.out.size (Nat.le_refl _)))
  obtain ⟨b, o, rfl, _, _, hc0, hc1⟩ := hrs.at' 0 (by decide)
  obtain ⟨b2, o2, e2, _, _, hd0, hd1⟩ := hrs.at' 1 (by decide)
  injection e2 with e2
  injection e2 with e3 e4
  subst e3
  subst e4
  clear hrs hM4 hC4
  simp only [List.getElem_cons_zero, List.getElem_cons_succ, Nat.zero_mul, Nat.add_zero, Nat.one_mul, List.length_cons, List.length_nil] at hc0 hc1 hd0 hd1 ⊢
  go_wp2
  go_ret
  exact ⟨rfl, HB4.out⟩

/-! A map out of numbers. -/
/-- unsigned numbers as they lie -/
structure Uns (kd : IntKind) (w : World) (A : Option Addr) (l : List Nat) : Prop where
  at' : ∀ j (h : j < l.length), ∃ b o, A = some ⟨b, o, none⟩ ∧ b < w.heap.size ∧ w.cell? ⟨b, o + j, none⟩ = some (.int kd (l[j] : Int))
theorem Uns.keep {kd : IntKind} {w w' : World} {A : Option Addr} {l : List Nat} (h : Uns kd w A l) (hb : Below w.heap.size w w') : Uns kd w' A l :=
  ⟨fun j hj => by
    obtain ⟨b, o, e, hlt, hc⟩ := h.at' j hj
    exact ⟨b, o, e, Nat.lt_of_lt_of_le hlt hb.size, (hb.cell (p := ⟨b, o + j, none⟩) hlt).trans hc⟩⟩
/-- which blocks a drawn map has -/
def drw (k : Nat) (us : List Nat) : Nat → Bool := us.foldl (fun f u => trn k true f ((u % k : Nat) : Int)) (fun _ => false)
theorem drw_take {k : Nat} {us : List Nat} {j : Nat} (h : j < us.length) : drw k (us.take (j + 1)) = trn k true (drw k (us.take j)) ((us[j] % k : Nat) : Int) := by
  unfold drw
  rw [List.take_succ_eq_append_getElem h, List.foldl_append]
  rfl
/-- what is drawn: the map in P, its words in Q, and the document's -/
def Drw (w : World) (k : Nat) (us : List Nat) (e : Ending) (w' : World) : Prop :=
  ∃ (A : Option Addr) (c : Nat), e = .returned (.tuple #[.pointer (some ⟨w.heap.size + 1, 0, none⟩), .slice A k c]) ∧ Mp w' (w.heap.size + 1) w.heap.size ((k + 63) / 64) ((k + 63) / 64) k (drw k us) ∧ Bls w' w.heap.size A k (drw k us) ∧ Below w.heap.size w w'

end Rn
end Go.Proofs.YtleehhpodgbomaaGreatDoor
