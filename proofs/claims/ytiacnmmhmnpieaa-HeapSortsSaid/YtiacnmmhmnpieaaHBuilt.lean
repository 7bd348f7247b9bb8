/- Heaps that are built from a list: each item's value is its place. -/
import Derived.Test.YtiacnmmhmnpieaaHeapFI
namespace Go.Proofs.Ytiacnmmhmnpieaa
open Go Go.RowKit HeapP
set_option maxRecDepth 100000

/-- The item of place j. -/
def item {α : Type} (t : Nat → Int) (v : Nat → α) (j : Nat) : HeapP.It α := ⟨t j, (j : Int) + 1, v j⟩
/-- What stands in the heap when the first k items have been put in. -/
def built {α : Type} (t : Nat → Int) (v : Nat → α) : Nat → List (HeapP.It α)
  | 0 => []
  | k + 1 => ins (item t v k) (built t v k)
theorem mem_built {α : Type} (t : Nat → Int) (v : Nat → α) (y : HeapP.It α) : ∀ k, y ∈ built t v k ↔ ∃ j, j < k ∧ y = item t v j
  | 0 => by simp [built]
  | k + 1 => by
    rw [built, mem_ins, mem_built t v y k]
    constructor
    · rintro (rfl | ⟨j, hj, rfl⟩)
      · exact ⟨k, by omega, rfl⟩
      · exact ⟨j, by omega, rfl⟩
    · rintro ⟨j, hj, rfl⟩
      by_cases h : j = k
      · subst h; exact .inl rfl
      · exact .inr ⟨j, by omega, rfl⟩
theorem built_length {α : Type} (t : Nat → Int) (v : Nat → α) : ∀ k, (built t v k).length = k
  | 0 => rfl
  | k + 1 => by rw [built, ins_length, built_length t v k]
theorem built_at {α : Type} (t : Nat → Int) (v : Nat → α) (n i : Nat) (h : i < (built t v n).length) : ∃ j, j < n ∧ (built t v n)[i] = item t v j := (mem_built t v _ n).1 (List.getElem_mem h)
end Go.Proofs.Ytiacnmmhmnpieaa
