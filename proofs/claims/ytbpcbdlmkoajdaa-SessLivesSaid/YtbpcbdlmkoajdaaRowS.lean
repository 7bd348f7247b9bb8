/- A row of the call's own, of k cells an element, as a slice. -/
import Derived.Test.YtbpcbdlmkoajdaaRowAt
namespace Go.Proofs.Ytbpcbdlmkoajdaa
open Go Go.RowKit
set_option maxRecDepth 100000
set_option linter.unusedSimpArgs false

theorem flat_len {α : Type} {f : α → List Value} {k : Nat} (hf : ∀ x, (f x).length = k) : ∀ l : List α, (l.flatMap f).length = l.length * k
  | [] => by simp
  | a :: l => by rw [List.flatMap_cons, List.length_append, flat_len hf l, hf, List.length_cons, Nat.succ_mul, Nat.add_comm]
theorem flat_at {α : Type} {f : α → List Value} {k : Nat} (hf : ∀ x, (f x).length = k) : ∀ (l : List α) (i : Nat) (hi : i < l.length) (j : Nat) (u : Value), (f l[i])[j]? = some u → (l.flatMap f)[i * k + j]? = some u
  | [], i, hi, _, _, _ => by simp at hi
  | a :: l, 0, _, j, u, hu => by
    replace hu : (f a)[j]? = some u := hu
    have hj := (List.getElem?_eq_some_iff.1 hu).1
    rw [List.flatMap_cons, Nat.zero_mul, Nat.zero_add, List.getElem?_append_left hj]
    exact hu
  | a :: l, i + 1, hi, j, u, hu => by
    rw [List.flatMap_cons, List.getElem?_append_right (by rw [hf, Nat.succ_mul]; omega), hf, show (i + 1) * k + j - k = i * k + j by rw [Nat.succ_mul]; omega]
    exact flat_at hf l i (by simpa using hi) j u (by simpa using hu)
/-- A row of the call's own, of k cells an element, as a slice. -/
theorem RowAt.sliceAt {α : Type} {f : α → List Value} {k : Nat} (hf : ∀ x, (f x).length = k) (hk : 0 < k) {w : World} {base : Nat} {e : TypeId} {v : Value} {n : Nat} {l : List α} (h : RowAt w base e k v n (l.flatMap f)) : SliceAt k f w v l := by
  obtain ⟨A, cap, rfl, h2, h3, h4, h5⟩ := h.form
  have hfl := flat_len hf l
  have hn : l.length = n := by
    have h1 := h.1
    rw [hfl] at h1
    exact Nat.eq_of_mul_eq_mul_right hk h1
  subst hn
  refine ⟨A, cap, rfl, h2, h3, fun i hi => ?_⟩
  obtain ⟨g, o, rfl⟩ := h4 (by omega)
  obtain ⟨_, h6, h7, _⟩ := h5 g o rfl
  refine ⟨g, o, rfl, h6, fun j u hu => ?_⟩
  have := h7 (i * k + j) u (flat_at hf l i hi j u hu)
  rw [← Nat.add_assoc] at this
  exact this
end Go.Proofs.Ytbpcbdlmkoajdaa
