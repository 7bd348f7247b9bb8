/- Maps of ranges as lists of parts: how many parts there are, and a block's value; no code is spoken of. -/
import Derived.Test.YtalmcflcpljnmaaImapP
namespace Go.Proofs.Ytalmcflcpljnmaa.ImapP
open SpanP PartP
variable {V : Type}

theorem cutV_count (t : S) (l : List (PtV V)) : (cutV t l).length = l.countP fun x => (meet x.1 t).isSome := by
  induction l with
  | nil => rfl
  | cons x l ih =>
    rw [List.countP_cons, ← ih, show x :: l = [x] ++ l from rfl, cutV_append, List.length_append]
    rcases e : meet x.1 t with _ | m <;> simp [cutV, e] <;> omega
theorem meet_yes {x t : S} : (meet x t).isSome = true ↔ Ok x ∧ Ok t ∧ max x.1 t.1 < min x.2 t.2 := by
  unfold meet
  split
  · rename_i h
    simp only [Option.isSome_some, true_iff]
    exact ⟨h.1, h.2.1, h.2.2.2⟩
  · rename_i h
    simp only [Option.isSome_none, Bool.false_eq_true, false_iff]
    rintro ⟨h1, h2, h3⟩
    exact h ⟨h1, h2, by unfold Ok at *; simp only; omega⟩
theorem cutV_mono {a p b : Int} (h0 : 0 ≤ a) (h1 : a ≤ p) (l : List (PtV V)) : (cutV (p, b) l).length ≤ (cutV (a, b) l).length := by
  rw [cutV_count, cutV_count]
  refine List.countP_mono_left fun x _ h => ?_
  rw [meet_yes] at h ⊢
  obtain ⟨k1, k2, k3⟩ := h
  refine ⟨k1, ?_, ?_⟩
  · unfold Ok at *; simp only at *; omega
  · simp only at *; omega
/-- A part that has a place inside is cut in two; no other one is. -/
theorem cutV_two {a p b : Int} (h0 : 0 ≤ a) (h1 : a ≤ p) (h2 : p ≤ b) : ∀ {l : List (PtV V)}, Row l → (cutV (a, p) l).length + (cutV (p, b) l).length ≤ (cutV (a, b) l).length + 1
  | [], _ => by simp [cutV]
  | x :: l, h => by
    have ih := cutV_two h0 h1 h2 (l := l) ⟨fun y hy => h.ok y (List.mem_cons_of_mem _ hy), (List.pairwise_cons.1 h.up).2⟩
    have hx := h.ok x List.mem_cons_self
    have e1 := meet_yes (x := x.1) (t := (a, p))
    have e2 := meet_yes (x := x.1) (t := (p, b))
    have e3 := meet_yes (x := x.1) (t := (a, b))
    have hm := cutV_mono (V := V) h0 h1 (b := b) l
    rw [cutV_count, cutV_count, cutV_count] at ih ⊢
    rw [cutV_count, cutV_count] at hm
    rw [List.countP_cons, List.countP_cons, List.countP_cons]
    unfold Ok at e1 e2 e3 hx
    simp only at e1 e2 e3
    by_cases c1 : (meet x.1 (a, p)).isSome = true <;> by_cases c2 : (meet x.1 (p, b)).isSome = true
    · have k1 := e1.1 c1
      have k2 := e2.1 c2
      have c3 := e3.2 ⟨hx, by omega, by omega⟩
      have hz : l.countP (fun x => (meet x.1 (a, p)).isSome) = 0 := by
        rw [List.countP_eq_zero]
        intro y hy hc
        rw [meet_yes] at hc
        have := (List.pairwise_cons.1 h.up).1 y hy
        simp only at hc
        omega
      rw [if_pos c1, if_pos c2, if_pos c3]
      omega
    · have k1 := e1.1 c1
      have c3 := e3.2 ⟨hx, by omega, by omega⟩
      rw [if_pos c1, if_neg c2, if_pos c3]
      omega
    · have k2 := e2.1 c2
      have c3 := e3.2 ⟨hx, by omega, by omega⟩
      rw [if_neg c1, if_pos c2, if_pos c3]
      omega
    · rw [if_neg c1, if_neg c2]
      split <;> omega
theorem laid_two {s : S} (hs : Ok s) (ht : s.2 ≤ top) {M m : List (PtV V)} (hM : Row M) (hm : m.length ≤ (cutV s M).length ∨ m.length ≤ 1) : (laid s M m).length ≤ M.length + 2 := by
  obtain ⟨a, b⟩ := s
  unfold Ok at hs
  simp only at hs ht
  have h1 := cutV_two (a := 0) (p := a) (b := top) (Int.le_refl _) hs.1 (by omega) hM
  have h2 := cutV_two (a := a) (p := b) (b := top) hs.1 (by omega) ht hM
  have h3 := cutV_mono (a := a) (p := b) (b := top) hs.1 (by omega) M
  have h4 := cutV_len (0, top) M
  unfold laid
  simp only [List.length_append]
  rcases hm with h | h <;> omega
/-- A block's value. -/
def blockV (l : List (PtV V)) (c : Int) : Option V := (l.find? fun x => decide (Has x.1 c)).map (·.2)
theorem blockV_some {l : List (PtV V)} (h : PNorm l) {c : Int} {v : V} : blockV l c = some v ↔ Val l c v := by
  unfold blockV
  constructor
  · intro e
    rcases f : l.find? (fun x => decide (Has x.1 c)) with _ | x
    · rw [f] at e; cases e
    · rw [f] at e
      simp only [Option.map_some, Option.some.injEq] at e
      exact ⟨x, List.mem_of_find?_eq_some f, by have := List.find?_some f; simpa using this, e⟩
  · intro hv
    rcases f : l.find? (fun x => decide (Has x.1 c)) with _ | x
    · obtain ⟨x, hx, hb, _⟩ := hv
      have := List.find?_eq_none.1 f x hx
      simp [hb] at this
    · have hx : Val l c x.2 := ⟨x, List.mem_of_find?_eq_some f, by have := List.find?_some f; simpa using this, rfl⟩
      rw [PNorm.one h hv hx, f]
      rfl
theorem blockV_none {l : List (PtV V)} (h : PNorm l) {c : Int} (hn : blockV l c = none) (v : V) : ¬ Val l c v := fun e => by
  rw [(blockV_some h).2 e] at hn
  cases hn
theorem blockV_mid {s : S} {l : List (PtV V)} {i j : Nat} (h : Near s l i j) {c : Int} (h1 : s.1 ≤ c) (h2 : c ≤ s.2) : blockV (mid l i j) c = blockV l c := by
  unfold blockV
  have ea : (l.take i).find? (fun x => decide (Has x.1 c)) = none := List.find?_eq_none.2 fun x hx => by have := h.a x hx; simp only [decide_eq_true_eq]; rintro ⟨_, k1, k2⟩; omega
  have ed : (l.drop j).find? (fun x => decide (Has x.1 c)) = none := List.find?_eq_none.2 fun x hx => by have := h.d x hx; simp only [decide_eq_true_eq]; rintro ⟨_, k1, k2⟩; omega
  conv => rhs; rw [cut_mid l h.le]
  rw [List.find?_append, List.find?_append, ea, ed]
  simp
theorem blockV_at {l : List (PtV V)} {c : Int} {k : Nat} (hk : k < l.length) (h0 : ∀ x ∈ l.take k, ¬ Has x.1 c) (h1 : Has l[k].1 c) : blockV l c = some l[k].2 := by
  unfold blockV
  have ea : (l.take k).find? (fun x => decide (Has x.1 c)) = none := List.find?_eq_none.2 fun x hx => by simp only [decide_eq_true_eq]; exact h0 x hx
  have e : l = l.take k ++ l[k] :: l.drop (k + 1) := by rw [← List.drop_eq_getElem_cons hk, List.take_append_drop]
  conv => lhs; rw [e]
  rw [List.find?_append, ea, List.find?_cons_of_pos (by simpa using h1)]
  rfl
theorem blockV_off {l : List (PtV V)} {c : Int} (h0 : ∀ x ∈ l, ¬ Has x.1 c) : blockV l c = none := by
  unfold blockV
  rw [List.find?_eq_none.2 fun x hx => by simp only [decide_eq_true_eq]; exact h0 x hx]
  rfl
/-- What a span's blocks have. -/
def partsV (s : S) (l : List (PtV V)) (i j : Nat) : List (PtV V) := if Ok s then cutV s (mid l i j) else []
theorem partsV_map {s : S} {l : List (PtV V)} {i j : Nat} (h : Ok s → Near s l i j) (hl : PNorm l) : MapOf (partsV s l i j) fun b v => Val l b v ∧ Has s b := by
  unfold partsV
  split
  · rename_i hs
    exact (h hs).parts hl
  · rename_i hs
    exact MapOf.nil.iff fun b v => ⟨False.elim, fun e => hs e.2.1⟩
end Go.Proofs.Ytalmcflcpljnmaa.ImapP
