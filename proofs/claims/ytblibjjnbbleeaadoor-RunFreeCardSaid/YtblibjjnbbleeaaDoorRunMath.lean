/- Free runs, without memory: those of a map, the first that is long enough, those that are taken. -/
import Derived.Test.YtblibjjnbbleeaaDoorBmRange
namespace Go.Proofs.YtblibjjnbbleeaaDoor
namespace Rn
open Bm

abbrev Run := Nat × Nat

/-- the free runs from block s on -/
inductive From (f : Nat → Bool) (n : Nat) : Nat → List Run → Prop where
  | none {s : Nat} : (∀ c, s ≤ c → c < n → f c = true) → From f n s []
  | some {s a e : Nat} {l : List Run} : s ≤ a → a < e → e ≤ n → (∀ c, s ≤ c → c < a → f c = true) → (∀ c, a ≤ c → c < e → f c = false) → (e = n ∨ f e = true) → From f n e l → From f n s ((a, e - a) :: l)

theorem next_or (f : Nat → Bool) (u : Bool) (n s : Nat) : (next f u n s = -1 ∧ ∀ c, s ≤ c → c < n → f c ≠ u) ∨ ∃ d : Nat, next f u n s = (d : Int) ∧ s ≤ d ∧ d < n ∧ f d = u ∧ ∀ c, s ≤ c → c < d → f c ≠ u := by
  rcases next_is f u n s with ⟨e, g⟩ | ⟨d, e, h1, h2, h3, h4⟩
  · exact .inl ⟨e, fun c h1 h2 => g c h1 h2⟩
  · exact .inr ⟨d, e, h1, h2, h3, fun c h1 h2 => h4 c h1 h2⟩

theorem from_exists (f : Nat → Bool) (n : Nat) : ∀ k s, n - s ≤ k → ∃ l, From f n s l
  | 0, s, h => ⟨[], .none fun c h1 h2 => by omega⟩
  | k + 1, s, h => by
    rcases next_or f false n s with ⟨_, g⟩ | ⟨a, _, h1, h2, h3, h4⟩
    · exact ⟨[], .none fun c h1 h2 => by simpa using g c h1 h2⟩
    · rcases next_or f true n a with ⟨_, g⟩ | ⟨e, _, k1, k2, k3, k4⟩
      · obtain ⟨l, hl⟩ := from_exists f n k n (by omega)
        exact ⟨_, .some h1 h2 (Nat.le_refl _) (fun c x y => by simpa using h4 c x y) (fun c x y => by simpa using g c x y) (.inl rfl) hl⟩
      · have hne : a ≠ e := fun e' => by rw [e', k3] at h3; cases h3
        obtain ⟨l, hl⟩ := from_exists f n k e (by omega)
        exact ⟨_, .some h1 (by omega) (by omega) (fun c x y => by simpa using h4 c x y) (fun c x y => by simpa using k4 c x y) (.inr k3) hl⟩

/-- where what is asked of the map stands, if the runs are none -/
theorem From.next_none {f : Nat → Bool} {n s : Nat} (h : From f n s []) : next f false n s = -1 := by
  cases h with
  | none g =>
    rcases next_or f false n s with ⟨e, _⟩ | ⟨a, _, h1, h2, h3, _⟩
    · exact e
    · rw [g a h1 h2] at h3; cases h3
theorem From.next_some {f : Nat → Bool} {n s a c : Nat} {l : List Run} (h : From f n s ((a, c) :: l)) :
    next f false n s = (a : Int) ∧ s ≤ a ∧ 1 ≤ c ∧ a + c ≤ n ∧ ((next f true n a = -1 ∧ a + c = n) ∨ next f true n a = ((a + c : Nat) : Int)) ∧ From f n (a + c) l ∧ (∀ d, a ≤ d → d < a + c → f d = false) ∧ (a + c = n ∨ f (a + c) = true) ∧ (∀ d, s ≤ d → d < a → f d = true) := by
  generalize hc : (a, c) :: l = L at h
  cases h with
  | none _ => cases hc
  | @some s' a' e l' h1 h2 h3 h4 h5 h6 h7 =>
    injection hc with hc hl
    injection hc with ha hc
    subst ha hc hl
    have he : a + (e - a) = e := by omega
    rw [he]
    refine ⟨?_, h1, by omega, h3, ?_, h7, h5, h6, h4⟩
    · rcases next_or f false n s with ⟨_, g⟩ | ⟨d, e1, k1, k2, k3, k4⟩
      · exact absurd (h5 a (Nat.le_refl _) h2) (g a h1 (by omega))
      · rw [e1]
        rcases Nat.lt_trichotomy d a with x | x | x
        · rw [h4 d k1 x] at k3; cases k3
        · rw [x]
        · exact absurd (h5 a (Nat.le_refl _) h2) (k4 a h1 x)
    · rcases next_or f true n a with ⟨e1, g⟩ | ⟨d, e1, k1, k2, k3, k4⟩
      · refine .inl ⟨e1, ?_⟩
        rcases h6 with x | x
        · exact x
        · rcases Nat.lt_or_ge e n with y | y
          · exact absurd x (g e (by omega) y)
          · omega
      · refine .inr ?_
        rw [e1]
        rcases Nat.lt_trichotomy d e with x | x | x
        · rw [h5 d k1 x] at k3; cases k3
        · rw [x]
        · rcases h6 with y | y
          · omega
          · exact absurd y (k4 e (by omega) x)

/-- the runs as the document finds them, block by block -/
def ext (l : List Run) (b : Nat) : List Run :=
  match l.getLast? with
  | some r => if r.1 + r.2 = b then l.dropLast ++ [(r.1, r.2 + 1)] else l ++ [(b, 1)]
  | none => l ++ [(b, 1)]
def frs (f : Nat → Bool) : Nat → List Run
  | 0 => []
  | b + 1 => if f b then frs f b else ext (frs f b) b

theorem ext_end {l : List Run} {r : Run} {b : Nat} (h : r.1 + r.2 = b) : ext (l ++ [r]) b = l ++ [(r.1, r.2 + 1)] := by
  unfold ext
  simp [h]
theorem ext_apart {l : List Run} {b : Nat} (h : ∀ r, l.getLast? = some r → r.1 + r.2 ≠ b) : ext l b = l ++ [(b, 1)] := by
  unfold ext
  split
  · rename_i r hr
    rw [if_neg (h r hr)]
  · rfl
/-- each run ends by then -/
theorem frs_ends (f : Nat → Bool) : ∀ b, ∀ r ∈ frs f b, 1 ≤ r.2 ∧ r.1 + r.2 ≤ b
  | 0 => fun r hr => by cases hr
  | b + 1 => fun r hr => by
    have ih := frs_ends f b
    rw [frs] at hr
    split at hr
    · have := ih r hr
      omega
    · unfold ext at hr
      split at hr
      · rename_i q hq
        have hqm := ih q (List.mem_of_getLast? hq)
        split at hr
        · rcases List.mem_append.1 hr with x | x
          · have := ih r (List.dropLast_subset _ x)
            omega
          · obtain rfl : r = (q.1, q.2 + 1) := by simpa using x
            simp only
            omega
        · rcases List.mem_append.1 hr with x | x
          · have := ih r x
            omega
          · obtain rfl : r = (b, 1) := by simpa using x
            simp
      · rcases List.mem_append.1 hr with x | x
        · have := ih r x
          omega
        · obtain rfl : r = (b, 1) := by simpa using x
          simp
theorem frs_skip {f : Nat → Bool} {s : Nat} : ∀ d, s ≤ d → (∀ c, s ≤ c → c < d → f c = true) → frs f d = frs f s
  | 0, h, _ => by obtain rfl : s = 0 := by omega
                  rfl
  | d + 1, h, g => by
    by_cases e : s = d + 1
    · rw [e]
    · rw [frs, g d (by omega) (by omega), if_pos rfl]
      exact frs_skip d (by omega) (fun c h1 h2 => g c h1 (by omega))
theorem frs_run {f : Nat → Bool} {a : Nat} (hl : ∀ r, (frs f a).getLast? = some r → r.1 + r.2 ≠ a) : ∀ e, a < e → (∀ c, a ≤ c → c < e → f c = false) → frs f e = frs f a ++ [(a, e - a)]
  | 0, h, _ => by omega
  | e + 1, h, g => by
    rw [frs, g e (by omega) (by omega), if_neg (by simp)]
    by_cases hx : a = e
    · subst hx
      rw [ext_apart hl, show a + 1 - a = 1 by omega]
    · rw [frs_run hl e (by omega) (fun c h1 h2 => g c h1 (by omega)), ext_end (by simp; omega), show e + 1 - a = e - a + 1 by omega]
theorem frs_from {f : Nat → Bool} {n s : Nat} {l : List Run} (h : From f n s l) : s ≤ n → (f s = false → s < n → ∀ r, (frs f s).getLast? = some r → r.1 + r.2 ≠ s) → frs f n = frs f s ++ l := by
  induction h with
  | none g =>
    intro hs _
    rw [List.append_nil]
    exact frs_skip _ hs g
  | @some s a e l h1 h2 h3 h4 h5 h6 h7 ih =>
    intro hs hC
    have hsk := frs_skip a h1 h4
    have hrun := frs_run (f := f) (a := a) (fun r hr => by
      rw [hsk] at hr
      by_cases hx : s = a
      · subst hx
        exact hC (h5 s (Nat.le_refl _) h2) (by omega) r hr
      · have := (frs_ends f s r (List.mem_of_getLast? hr)).2
        omega) e h2 h5
    rw [ih h3 (fun hf hlt => by
      rcases h6 with x | x
      · omega
      · rw [x] at hf; cases hf), hrun, hsk]
    simp
theorem from_frs (f : Nat → Bool) (n : Nat) : From f n 0 (frs f n) := by
  obtain ⟨l, hl⟩ := from_exists f n n 0 (by omega)
  have := frs_from hl (Nat.zero_le _) (fun _ _ r hr => by simp [frs] at hr)
  rw [this]
  exact hl

/-- the first that is long enough, cut -/
def fit (l : List Run) (c : Nat) : Option Run := (l.find? fun r => decide (c ≤ r.2)).map fun r => (r.1, c)
theorem fit_nil (c : Nat) : fit [] c = none := rfl
theorem fit_yes {a k c : Nat} {l : List Run} (h : c ≤ k) : fit ((a, k) :: l) c = some (a, c) := by simp [fit, h]
theorem fit_no {a k c : Nat} {l : List Run} (h : ¬ c ≤ k) : fit ((a, k) :: l) c = fit l c := by simp [fit, h]

/-- runs from the first one on, until there are so many -/
def cut : List Run → Nat → List Run
  | [], _ => []
  | r :: l, c => if c = 0 then [] else (r.1, min r.2 c) :: cut l (c - min r.2 c)
theorem cut_zero (l : List Run) : cut l 0 = [] := by cases l <;> simp [cut]
def tot (l : List Run) : Nat := (l.map (·.2)).sum
theorem tot_cons (r : Run) (l : List Run) : tot (r :: l) = r.2 + tot l := by simp [tot]
theorem tot_snoc (r : Run) (l : List Run) : tot (l ++ [r]) = tot l + r.2 := by simp [tot]
theorem tot_cut : ∀ (l : List Run) (c : Nat), c ≤ tot l → tot (cut l c) = c
  | [], c, h => by simp [tot, cut] at *; omega
  | r :: l, c, h => by
    rw [tot_cons] at h
    rw [cut]
    split
    · rename_i e; rw [e]; rfl
    · rw [tot_cons, tot_cut l _ (by omega)]
      simp only
      omega
theorem cut_append : ∀ (l l' : List Run) (c : Nat), cut (l ++ l') c = cut l c ++ cut l' (c - tot (cut l c))
  | [], l', c => by simp [cut, tot]
  | r :: l, l', c => by
    rw [List.cons_append, cut, cut]
    split
    · rename_i e
      simp [e, cut_zero]
    · rw [cut_append l l', tot_cons, List.cons_append]
      simp only
      rw [show c - min r.2 c - tot (cut l (c - min r.2 c)) = c - (min r.2 c + tot (cut l (c - min r.2 c))) by omega]
theorem cut_take {l : List Run} {k c : Nat} (h : k < l.length) : cut (l.take (k + 1)) c = cut (l.take k) c ++ (if c - tot (cut (l.take k) c) = 0 then [] else [(l[k].1, min l[k].2 (c - tot (cut (l.take k) c)))]) := by
  rw [List.take_succ_eq_append_getElem h, cut_append]
  congr 1
theorem cut_full {l : List Run} {k c : Nat} (h : c - tot (cut (l.take k) c) = 0) : cut l c = cut (l.take k) c := by
  conv => lhs; rw [← List.take_append_drop k l, cut_append, h, cut_zero, List.append_nil]
theorem cut_le : ∀ (l : List Run) (c : Nat), tot (cut l c) ≤ c ∧ (cut l c).length ≤ l.length
  | [], c => by simp [cut, tot]
  | r :: l, c => by
    rw [cut]
    split
    · simp [tot]
    · rw [tot_cons]
      have := cut_le l (c - min r.2 c)
      simp only [List.length_cons]
      omega
/-- what a Take is of -/
def cho (l : List Run) (c : Nat) : List Run := if 1 ≤ c then (match fit l c with | some r => [r] | none => cut l c) else []
theorem tot_cho (l : List Run) (c : Nat) (h : c ≤ tot l) : tot (cho l c) = c := by
  unfold cho
  split
  · split
    · rename_i r hr
      unfold fit at hr
      obtain ⟨x, _, e⟩ := Option.map_eq_some_iff.1 hr
      rw [← e]
      simp [tot]
    · exact tot_cut l c h
  · simp [tot]; omega
/-- runs that rise, apart, of free blocks -/
def Up (f : Nat → Bool) (n : Nat) : Nat → List Run → Prop
  | _, [] => True
  | s, r :: l => s ≤ r.1 ∧ 1 ≤ r.2 ∧ r.1 + r.2 ≤ n ∧ (∀ d, r.1 ≤ d → d < r.1 + r.2 → f d = false) ∧ Up f n (r.1 + r.2 + 1) l
theorem Up.less {f : Nat → Bool} {n : Nat} : ∀ {s t : Nat} {l : List Run}, Up f n s l → t ≤ s → Up f n t l
  | _, _, [], _, _ => trivial
  | _, _, _ :: _, h, ht => ⟨Nat.le_trans ht h.1, h.2⟩
theorem From.up {f : Nat → Bool} {n s : Nat} {l : List Run} (h : From f n s l) : Up f n s l ∧ ((s = n ∨ f s = true) → Up f n (s + 1) l) := by
  induction h with
  | none _ => exact ⟨trivial, fun _ => trivial⟩
  | @some s a e l h1 h2 h3 h4 h5 h6 h7 ih =>
    have he : a + (e - a) = e := by omega
    refine ⟨⟨h1, by simp only; omega, by simp only; omega, fun d k1 k2 => h5 d k1 (by simp only at k2; omega), by simp only; rw [he]; exact ih.2 h6⟩, fun hs => ⟨?_, by simp only; omega, by simp only; omega, fun d k1 k2 => h5 d k1 (by simp only at k2; omega), by simp only; rw [he]; exact ih.2 h6⟩⟩
    have hne : s ≠ a := fun x => by
      subst x
      rcases hs with y | y
      · omega
      · rw [h5 s (Nat.le_refl _) h2] at y; cases y
    simp only
    omega
theorem Up.cut {f : Nat → Bool} {n : Nat} : ∀ {s c : Nat} {l : List Run}, Up f n s l → Up f n s (cut l c)
  | _, _, [], _ => trivial
  | s, c, r :: l, h => by
    rw [Rn.cut]
    split
    · trivial
    · obtain ⟨h1, h2, h3, h4, h5⟩ := h
      exact ⟨h1, by simp only; omega, by simp only; omega, fun d k1 k2 => h4 d k1 (by simp only at k2; omega), (Up.cut h5).less (by simp only; omega)⟩
theorem Up.fit {f : Nat → Bool} {n c : Nat} (hc : 1 ≤ c) : ∀ {s : Nat} {l : List Run} {r : Run}, Up f n s l → fit l c = some r → Up f n s [r]
  | _, [], _, _, hr => by cases hr
  | s, (a, k) :: l, r, h, hr => by
    obtain ⟨h1, h2, h3, h4, h5⟩ := h
    by_cases hk : c ≤ k
    · rw [fit_yes hk] at hr
      injection hr with hr
      subst hr
      exact ⟨h1, hc, by simp only at *; omega, fun d k1 k2 => h4 d k1 (by simp only at *; omega), trivial⟩
    · rw [fit_no hk] at hr
      exact (Up.fit hc h5 hr).less (by simp only at *; omega)
theorem up_cho (f : Nat → Bool) (n c : Nat) : Up f n 0 (cho (frs f n) c) := by
  have h := (from_frs f n).up.1
  unfold cho
  split
  · rename_i hc
    split
    · rename_i r hr
      exact Up.fit hc h hr
    · exact h.cut
  · trivial
/-- the map that has these, too -/
def fl (f : Nat → Bool) (l : List Run) : Nat → Bool := l.foldl (fun g r => fill g r.1 (r.1 + r.2)) f
theorem fl_take {f : Nat → Bool} {l : List Run} {k : Nat} (h : k < l.length) : fl f (l.take (k + 1)) = fill (fl f (l.take k)) l[k].1 (l[k].1 + l[k].2) := by
  unfold fl
  rw [List.take_succ_eq_append_getElem h, List.foldl_append]
  rfl
/-- an earlier run has none of what is behind it -/
theorem fl_behind {n : Nat} : ∀ {l : List Run} {f g : Nat → Bool} {s k : Nat}, Up f n s l → (hk : k < l.length) → (∀ d, s ≤ d → g d = f d) → ∀ d, l[k].1 ≤ d → fl g (l.take k) d = f d
  | r :: l, f, g, s, 0, h, _, hg, d, hd => hg d (by have := h.1; simp only [List.getElem_cons_zero] at hd; omega)
  | r :: l, f, g, s, k + 1, h, hk, hg, d, hd => by
    obtain ⟨h1, h2, h3, h4, h5⟩ := h
    simp only [List.getElem_cons_succ] at hd
    refine fl_behind (g := fill g r.1 (r.1 + r.2)) h5 (by simpa using hk) (fun x hx => ?_) d hd
    unfold fill
    rw [decide_eq_false (by omega), hg x (by omega)]
    simp
theorem Up.get {f : Nat → Bool} {n : Nat} : ∀ {l : List Run} {s k : Nat}, Up f n s l → (hk : k < l.length) → s ≤ l[k].1 ∧ 1 ≤ l[k].2 ∧ l[k].1 + l[k].2 ≤ n ∧ (∀ d, l[k].1 ≤ d → d < l[k].1 + l[k].2 → f d = false)
  | r :: l, s, 0, h, _ => ⟨h.1, h.2.1, h.2.2.1, h.2.2.2.1⟩
  | r :: l, s, k + 1, h, hk => by
    have := Up.get (k := k) h.2.2.2.2 (by simpa using hk)
    have h1 := h.1
    simp only [List.getElem_cons_succ]
    exact ⟨by omega, this.2⟩
theorem Up.next {f : Nat → Bool} {n : Nat} : ∀ {l : List Run} {s k : Nat}, Up f n s l → (hk : k + 1 < l.length) → (l[k]'(by omega)).1 + (l[k]'(by omega)).2 < l[k + 1].1
  | r :: q :: l, s, 0, h, _ => by
    have := h.2.2.2.2.1
    simp only [List.getElem_cons_zero, List.getElem_cons_succ]
    omega
  | r :: l, s, k + 1, h, hk => by
    simp only [List.getElem_cons_succ]
    exact Up.next h.2.2.2.2 (by simpa using hk)
/-- it may be had, behind those ahead of it -/
theorem fl_range {f : Nat → Bool} {n k : Nat} {l : List Run} (h : Up f n 0 l) (hk : k < l.length) : rgf n (fl f (l.take k)) (l[k].1 : Int) (l[k].2 : Int) = fl f (l.take (k + 1)) := by
  obtain ⟨_, h2, h3, h4⟩ := h.get hk
  have hb := fl_behind h hk (fun _ _ => rfl)
  have : rgb n (fl f (l.take k)) (l[k].1 : Int) (l[k].2 : Int) = true := rgb_iff.2 ⟨by omega, fun b x y => by
    rw [hb b (by omega)]
    exact h4 b (by omega) (by omega)⟩
  unfold rgf
  rw [this, if_pos rfl, fl_take hk, Int.toNat_natCast, show ((l[k].1 : Int) + (l[k].2 : Int)).toNat = l[k].1 + l[k].2 by omega]
/-- how many are free -/
theorem tot_from {f : Nat → Bool} {n s : Nat} {l : List Run} (h : From f n s l) : s ≤ n → tot l + cnt f n + s = n + cnt f s := by
  induction h with
  | @none s g =>
    intro hs
    have : ∀ k, s + k ≤ n → cnt f (s + k) = cnt f s + k := fun k => by
      induction k with
      | zero => intro _; rfl
      | succ k ih =>
        intro hk
        rw [← Nat.add_assoc, cnt, ih (by omega), g (s + k) (by omega) (by omega)]
        simp
        omega
    have := this (n - s) (by omega)
    rw [show s + (n - s) = n by omega] at this
    simp only [tot, List.map_nil, List.sum_nil]
    omega
  | @some s a e l h1 h2 h3 h4 h5 h6 h7 ih =>
    intro hs
    have x1 : ∀ k, s + k ≤ a → cnt f (s + k) = cnt f s + k := fun k => by
      induction k with
      | zero => intro _; rfl
      | succ k ih =>
        intro hk
        rw [← Nat.add_assoc, cnt, ih (by omega), h4 (s + k) (by omega) (by omega)]
        simp
        omega
    have x1 := x1 (a - s) (by omega)
    rw [show s + (a - s) = a by omega] at x1
    have x2 : ∀ k, a + k ≤ e → cnt f (a + k) = cnt f a := fun k => by
      induction k with
      | zero => intro _; rfl
      | succ k ih =>
        intro hk
        rw [← Nat.add_assoc, cnt, ih (by omega), h5 (a + k) (by omega) (by omega)]
        simp
    have x2 := x2 (e - a) (by omega)
    rw [show a + (e - a) = e by omega] at x2
    have := ih h3
    rw [tot_cons]
    simp only
    omega
theorem tot_frs (f : Nat → Bool) (n : Nat) : tot (frs f n) = n - cnt f n := by
  have := tot_from (from_frs f n) (Nat.zero_le _)
  rw [show cnt f 0 = 0 from rfl] at this
  omega
end Rn
end Go.Proofs.YtblibjjnbbleeaaDoor
