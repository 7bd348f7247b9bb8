/- Worlds in which, of the blocks that were there, two blocks alone may have turned. -/
import Derived.Test.YtbpcbdlmkoajdaaKit
namespace Go.Proofs.Ytbpcbdlmkoajdaa
open Go Go.RowKit

/-- Of the blocks that w has, blocks p and g alone may have turned in w'. -/
structure Two (p g : Nat) (w w' : World) : Prop where
  os : w'.os = w.os
  tape : w'.tape = w.tape
  output : w'.output = w.output
  size : w.heap.size ≤ w'.heap.size
  block : ∀ k, k < w.heap.size → k ≠ p → k ≠ g → w'.heap[k]? = w.heap[k]?

section
variable {a b c w w' : World} {p g g' : Nat}
theorem Two.refl (p g : Nat) (w : World) : Two p g w w := ⟨rfl, rfl, rfl, Nat.le_refl _, fun _ _ _ _ => rfl⟩
theorem Two.of_below (p g : Nat) (h : Below w.heap.size w w') : Two p g w w' := ⟨h.os, h.tape, h.output, h.size, fun k hk _ _ => h.block k hk⟩
theorem Two.trans (h : Two p g a b) (k : Two p g' b c) (hg : g' = g ∨ a.heap.size ≤ g') : Two p g a c :=
  ⟨k.os.trans h.os, k.tape.trans h.tape, k.output.trans h.output, Nat.le_trans h.size k.size, fun i hi hp h1 =>
    (k.block i (Nat.lt_of_lt_of_le hi h.size) hp (by rcases hg with rfl | hg; · exact h1
                                                     · omega)).trans (h.block i hi hp h1)⟩
theorem Two.below {B : Nat} (h : Two p g w w') (hp : B ≤ p) (hg : B ≤ g) (hs : B ≤ w.heap.size) : Below B w w' :=
  ⟨h.os, h.tape, h.output, h.size, fun k hk => h.block k (by omega) (by omega) (by omega)⟩
theorem Two.drewN (h : Two p g a w) (n : Nat) : Two p g a (w.drewN n) := ⟨h.os, h.tape, h.output, h.size, h.block⟩
theorem Two.store1 (h : Two p g a w) (i : Nat) (u : Value) : Two p g a (w.setCell ⟨p, i, none⟩ u) :=
  h.trans (g' := g) ⟨rfl, rfl, rfl, by simp [World.setCell], fun k _ hk _ => Below.heap_setCell _ _ _ _ hk⟩ (.inl rfl)
theorem Two.store2 (h : Two p g a w) (i : Nat) (u : Value) : Two p g a (w.setCell ⟨g, i, none⟩ u) :=
  h.trans (g' := g) ⟨rfl, rfl, rfl, by simp [World.setCell], fun k _ _ hk => Below.heap_setCell _ _ _ _ hk⟩ (.inl rfl)
theorem Two.then (h : Two p g a b) (k : Below b.heap.size b c) : Two p g a c := h.trans (Two.of_below p g k) (.inl rfl)
theorem Sits.two {q : Nat} {t : TypeId} {cs : Array Value} (h : Sits w q t cs) (ho : Two p g w w') (hp : q ≠ p) (hg : q ≠ g) : Sits w' q t cs := (ho.block q h.lt hp hg).trans h
theorem Sits.drewN {q : Nat} {t : TypeId} {cs : Array Value} (h : Sits w q t cs) (n : Nat) : Sits (w.drewN n) q t cs := h
theorem below_put {B q : Nat} (h : Below B a w) (hq : B ≤ q) (i : Nat) (u : Value) : Below B a (w.setCell ⟨q, i, none⟩ u) :=
  h.trans ⟨rfl, rfl, rfl, by simp [World.setCell], fun k hk => Below.heap_setCell _ _ _ _ (show k ≠ q by omega)⟩
theorem Two.of_only (p g : Nat) (h : Only p w w') : Two p g w w' := ⟨h.os, h.tape, h.output, h.size, fun k hk hp _ => h.block k hk hp⟩
end
end Go.Proofs.Ytbpcbdlmkoajdaa
