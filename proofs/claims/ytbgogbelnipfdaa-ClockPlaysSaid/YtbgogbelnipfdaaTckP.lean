/- Package tick, in plain words: a clock's last steps, whether its bound was kept, and how far its time may be from the real one. -/
import Derived.Test.YtbgogbelnipfdaaNum
namespace Go.Proofs.Ytbgogbelnipfdaa
open Go Go.RowKit
set_option linter.unusedSimpArgs false
namespace TckP

theorem snoc_ind {P : List Int → Prop} (h0 : P []) (h1 : ∀ l x, P l → P (l ++ [x])) (l : List Int) : P l := by
  have h : ∀ (n : Nat) (l : List Int), l.length = n → P l := by
    intro n
    induction n with
    | zero => intro l h; rw [List.length_eq_zero_iff.1 h]; exact h0
    | succ n ih =>
      intro l h
      have hne : l ≠ [] := by intro e; simp [e] at h
      rw [← List.dropLast_concat_getLast hne]
      exact h1 _ _ (ih _ (by simp; omega))
  exact h _ l rfl
/-- A step, as far as a clock goes. -/
def clampF (x : Int) : Int := min (max x 0) 8
theorem clamp_lo (x : Int) : 0 ≤ clampF x := by unfold clampF; omega
theorem clamp_hi (x : Int) : clampF x ≤ 8 := by unfold clampF; omega
/-- A clock: its time, the real ticks, its last steps, and whether its bound was broken. -/
structure Clk where
  now : Int
  real : Nat
  L : List Int
  b : Bool
def newC : Clk := ⟨0, 0, [], false⟩
/-- The last steps when one more is done. -/
def followF (L : List Int) (x : Int) : List Int := (if L.length = 8 then L.tail else L) ++ [x]
/-- Do they keep the bound? -/
def inB (L : List Int) : Bool := decide (L.length < 8) || (decide (7 ≤ L.sum) && decide (L.sum ≤ 9))
def stepF (c : Clk) (x : Int) : Clk := ⟨c.now + clampF x, c.real + 1, followF c.L (clampF x), c.b || !inB (followF c.L (clampF x))⟩
/-- What is so of each clock. -/
structure ClkOk (c : Clk) : Prop where
  lo : 0 ≤ c.now
  hi : c.now ≤ 8 * c.real
  len : c.L.length ≤ 8
  el : ∀ x ∈ c.L, 0 ≤ x ∧ x ≤ 8
theorem ok_new : ClkOk newC := ⟨by simp [newC], by simp [newC], by simp [newC], by simp [newC]⟩
theorem follow_len {L : List Int} (h : L.length ≤ 8) (x : Int) : (followF L x).length ≤ 8 := by
  unfold followF
  split <;> simp <;> omega
theorem follow_el {L : List Int} (h : ∀ x ∈ L, 0 ≤ x ∧ x ≤ 8) {y : Int} (hy : 0 ≤ y ∧ y ≤ 8) : ∀ x ∈ followF L y, 0 ≤ x ∧ x ≤ 8 := by
  intro x hx
  unfold followF at hx
  rcases List.mem_append.1 hx with hx | hx
  · split at hx
    · exact h x (List.mem_of_mem_tail hx)
    · exact h x hx
  · rw [List.mem_singleton.1 hx]
    exact hy
theorem ok_step {c : Clk} (h : ClkOk c) (x : Int) : ClkOk (stepF c x) :=
  have h1 := clamp_lo x
  have h2 := clamp_hi x
  ⟨by have := h.lo; simp only [stepF]; omega, by have := h.hi; simp only [stepF]; omega, follow_len h.len _, follow_el h.el ⟨h1, h2⟩⟩
theorem sum_le {L : List Int} (h : ∀ x ∈ L, 0 ≤ x ∧ x ≤ 8) : 0 ≤ L.sum ∧ L.sum ≤ 8 * L.length := by
  induction L with
  | nil => simp
  | cons a L ih =>
    have h1 := ih fun x hx => h x (List.mem_cons_of_mem _ hx)
    have h2 := h a (List.mem_cons_self ..)
    simp only [List.sum_cons, List.length_cons]
    omega
/-- The clock behind so many steps. -/
def runC (l : List Int) : Clk := l.foldl stepF newC
theorem run_snoc (l : List Int) (x : Int) : runC (l ++ [x]) = stepF (runC l) x := by simp [runC, List.foldl_append]
/-- The steps, as far as a clock goes. -/
def cl (l : List Int) : List Int := l.map clampF
theorem cl_len (l : List Int) : (cl l).length = l.length := by simp [cl]
theorem cl_snoc (l : List Int) (x : Int) : cl (l ++ [x]) = cl l ++ [clampF x] := by simp [cl]
/-- The last eight. -/
def last8 (l : List Int) : List Int := l.drop (l.length - 8)
theorem last8_snoc (l : List Int) (x : Int) : last8 (l ++ [x]) = followF (last8 l) x := by
  unfold last8 followF
  simp only [List.length_append, List.length_singleton, List.length_drop]
  by_cases h : 8 ≤ l.length
  · rw [if_pos (by omega), List.drop_append_of_le_length (by omega), List.tail_drop]
    congr 2
    omega
  · rw [if_neg (by omega), List.drop_append_of_le_length (by omega)]
    congr 2
    omega
theorem run_real (l : List Int) : (runC l).real = l.length := by
  induction l using snoc_ind with
  | h0 => rfl
  | h1 l x ih => rw [run_snoc]; simp [stepF, ih]
theorem run_now (l : List Int) : (runC l).now = (cl l).sum := by
  induction l using snoc_ind with
  | h0 => rfl
  | h1 l x ih => rw [run_snoc, cl_snoc]; simp [stepF, ih, List.sum_append]
theorem run_L (l : List Int) : (runC l).L = last8 (cl l) := by
  induction l using snoc_ind with
  | h0 => rfl
  | h1 l x ih => rw [run_snoc, cl_snoc, last8_snoc, ← ih]; rfl
theorem run_b (l : List Int) (x : Int) : (runC (l ++ [x])).b = ((runC l).b || !inB (last8 (cl l ++ [clampF x]))) := by
  rw [run_snoc, last8_snoc, ← run_L]; rfl
theorem run_ok (l : List Int) : ClkOk (runC l) := by
  induction l using snoc_ind with
  | h0 => exact ok_new
  | h1 l x ih => rw [run_snoc]; exact ok_step ih x
/-- While the bound is kept each eight are from 7 to 9. -/
theorem kept_all (l : List Int) (h : (runC l).b = false) : ∀ k, k ≤ l.length → (runC (l.take k)).b = false := by
  induction l using snoc_ind with
  | h0 => intro k hk; simpa using h
  | h1 l x ih =>
    intro k hk
    rw [run_b, Bool.or_eq_false_iff] at h
    by_cases e : k = l.length + 1
    · subst e
      rw [List.take_of_length_le (by simp), run_b, h.1, h.2]
      rfl
    · simp only [List.length_append, List.length_singleton] at hk
      rw [List.take_append_of_le_length (by omega)]
      exact ih h.1 k (by omega)
theorem last8_sum {l : List Int} (h : (runC l).b = false) (h8 : 8 ≤ l.length) : 7 ≤ (last8 (cl l)).sum ∧ (last8 (cl l)).sum ≤ 9 := by
  obtain ⟨l, x, rfl⟩ : ∃ l' x, l = l' ++ [x] := ⟨l.dropLast, l.getLast (by intro e; simp [e] at h8), (List.dropLast_concat_getLast _).symm⟩
  rw [run_b, Bool.or_eq_false_iff] at h
  have h2 := h.2
  rw [cl_snoc]
  have hl : (last8 (cl l ++ [clampF x])).length = 8 := by
    simp only [List.length_append, List.length_singleton] at h8
    simp only [last8, List.length_drop, List.length_append, List.length_singleton, cl_len]
    omega
  simp only [inB, hl, Bool.not_eq_false', Bool.or_eq_true, Bool.and_eq_true, decide_eq_true_eq] at h2
  omega
theorem bound_from (k : Nat) : ∀ (l : List Int) (r : Nat), (runC l).b = false → l.length = 8 * k + r → 7 * (k : Int) + (cl (l.take r)).sum ≤ (cl l).sum ∧ (cl l).sum ≤ 9 * (k : Int) + (cl (l.take r)).sum := by
  induction k with
  | zero =>
    intro l r _ h
    rw [List.take_of_length_le (by omega)]
    omega
  | succ k ih =>
    intro l r hb h
    have h1 := ih (l.take (8 * k + r)) r (kept_all l hb _ (by omega)) (by rw [List.length_take]; omega)
    have h2 := last8_sum hb (by omega)
    have h3 : (cl l).sum = (cl (l.take (8 * k + r))).sum + (last8 (cl l)).sum := by
      have e : cl l = cl (l.take (8 * k + r)) ++ last8 (cl l) := by
        unfold last8
        rw [cl_len]
        have : cl (l.take (8 * k + r)) = (cl l).take (8 * k + r) := by simp [cl, List.map_take]
        rw [this, show l.length - 8 = 8 * k + r by omega, List.take_append_drop]
      conv => lhs; rw [e]
      rw [List.sum_append]
    rw [List.take_take, Nat.min_eq_left (by omega)] at h1
    omega
theorem cl_el (l : List Int) : ∀ x ∈ cl l, 0 ≤ x ∧ x ≤ 8 := by
  intro x hx
  obtain ⟨y, -, rfl⟩ := List.mem_map.1 hx
  exact ⟨clamp_lo y, clamp_hi y⟩
/-- P1603: while the bound is kept. -/
theorem clock_bound (l : List Int) (hb : (runC l).b = false) (h8 : 8 ≤ l.length) : ¬ 8 * (runC l).now < 7 * (l.length : Int) - 72 ∧ ¬ 9 * (l.length : Int) + 72 < 8 * (runC l).now := by
  obtain ⟨k, r, hk, hr⟩ : ∃ k r, l.length = 8 * k + r ∧ r < 8 := ⟨l.length / 8, l.length % 8, by omega, by omega⟩
  have h1 := bound_from k l r hb hk
  have h2 := last8_sum (kept_all l hb 8 h8) (by rw [List.length_take]; omega)
  have e : last8 (cl (l.take 8)) = cl (l.take 8) := by
    unfold last8
    rw [cl_len, List.length_take, Nat.min_eq_left h8]
    rfl
  rw [e] at h2
  have h3 : (cl (l.take 8)).sum = (cl (l.take r)).sum + (cl ((l.take 8).drop r)).sum := by
    have : l.take r = (l.take 8).take r := by rw [List.take_take, Nat.min_eq_left (by omega)]
    rw [this, ← List.sum_append]
    unfold cl
    rw [← List.map_append, List.take_append_drop]
  have h4 := sum_le (cl_el ((l.take 8).drop r))
  have h5 := sum_le (cl_el (l.take r))
  rw [run_now]
  omega
end TckP
end Go.Proofs.Ytbgogbelnipfdaa
