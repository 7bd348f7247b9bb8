/- Package super, in plain words: what a shape is, and where everything stands. -/
import Derived.Handy
namespace Go.Proofs.Ytnhfpkbnedjmlaa
namespace SupP
structure Sh where
  n : Int
  b : Int
  l : Int
  c : Int
  t : Int
deriving DecidableEq
def withinB (v a b : Int) : Bool := decide (a ≤ v) && decide (v ≤ b)
def validB (s : Sh) : Bool := withinB s.n 1 16 && withinB s.b 1 4096 && withinB s.l 8 256 && withinB s.c 2 1000 && withinB s.t 32 1000
structure Valid (s : Sh) : Prop where
  n1 : 1 ≤ s.n
  n2 : s.n ≤ 16
  b1 : 1 ≤ s.b
  b2 : s.b ≤ 4096
  l1 : 8 ≤ s.l
  l2 : s.l ≤ 256
  c1 : 2 ≤ s.c
  c2 : s.c ≤ 1000
  t1 : 32 ≤ s.t
  t2 : s.t ≤ 1000
theorem within_iff {v a b : Int} : withinB v a b = true ↔ a ≤ v ∧ v ≤ b := by simp [withinB]
theorem validB_iff {s : Sh} : validB s = true ↔ Valid s := by
  unfold validB
  simp only [Bool.and_eq_true, within_iff]
  constructor
  · rintro ⟨⟨⟨⟨⟨h1, h2⟩, h3, h4⟩, h5, h6⟩, h7, h8⟩, h9, h10⟩
    exact ⟨h1, h2, h3, h4, h5, h6, h7, h8, h9, h10⟩
  · rintro ⟨h1, h2, h3, h4, h5, h6, h7, h8, h9, h10⟩
    exact ⟨⟨⟨⟨⟨h1, h2⟩, h3, h4⟩, h5, h6⟩, h7, h8⟩, h9, h10⟩
def blocksAt (s : Sh) : Int := 1 + s.n * s.l
def sizeS (s : Sh) : Int := if validB s = true then blocksAt s + s.b * 2 else 0
def zeroSh : Sh := ⟨0, 0, 0, 0, 0⟩
/-- n times l is small where both are: in the one form that the walks ask for. -/
theorem mul_bound {n l : Int} (h1 : 0 ≤ n) (h2 : n ≤ 16) (h3 : 0 ≤ l) (h4 : l ≤ 256) : 0 ≤ n * l ∧ n * l ≤ 4096 := by
  refine ⟨Int.mul_nonneg h1 h3, ?_⟩
  have a1 : n * l ≤ 16 * l := Int.mul_le_mul_of_nonneg_right h2 h3
  omega
theorem size_valid {s : Sh} (h : Valid s) : sizeS s = blocksAt s + s.b * 2 := by unfold sizeS; rw [if_pos (validB_iff.2 h)]
theorem size_bound {s : Sh} (h : Valid s) : 11 ≤ sizeS s ∧ sizeS s ≤ 12289 := by
  rw [size_valid h]
  unfold blocksAt
  have := mul_bound (show 0 ≤ s.n by have := h.n1; omega) h.n2 (show 0 ≤ s.l by have := h.l1; omega) h.l2
  have h8 : 1 * s.l ≤ s.n * s.l := Int.mul_le_mul_of_nonneg_right h.n1 (by have := h.l1; omega)
  have := h.b1
  have := h.b2
  have := h.l1
  omega
theorem six (b1 b2 b3 b4 : Bool) : (b1 = false) ∨ (b1 = true ∧ b2 = false) ∨ (b1 = true ∧ b2 = true ∧ b3 = false) ∨ (b1 = true ∧ b2 = true ∧ b3 = true ∧ b4 = false) ∨ (b1 = true ∧ b2 = true ∧ b3 = true ∧ b4 = true) := by
  cases b1 <;> cases b2 <;> cases b3 <;> cases b4 <;> simp
end SupP
end Go.Proofs.Ytnhfpkbnedjmlaa
