/- Worlds in which the blocks of a set alone have turned. -/
import Derived.Test.YtbpcbdlmkoajdaaKit
import Derived.OwnWalk
namespace Go.Proofs.Ytbpcbdlmkoajdaa
open Go Go.RowKit
set_option maxRecDepth 100000

/-- Of the blocks that w has, those of S alone may have turned in w'. -/
structure Many (S : Nat → Prop) (w w' : World) : Prop where
  os : w'.os = w.os
  tape : w'.tape = w.tape
  output : w'.output = w.output
  size : w.heap.size ≤ w'.heap.size
  block : ∀ k, k < w.heap.size → ¬ S k → w'.heap[k]? = w.heap[k]?
section
variable {S : Nat → Prop} {a b c w w' : World}
theorem Many.refl (S : Nat → Prop) (w : World) : Many S w w := ⟨rfl, rfl, rfl, Nat.le_refl _, fun _ _ _ => rfl⟩
theorem Many.trans (h : Many S a b) (k : Many S b c) : Many S a c :=
  ⟨k.os.trans h.os, k.tape.trans h.tape, k.output.trans h.output, Nat.le_trans h.size k.size, fun i hi hs => (k.block i (Nat.lt_of_lt_of_le hi h.size) hs).trans (h.block i hi hs)⟩
theorem Many.of_below (S : Nat → Prop) (h : Below w.heap.size w w') : Many S w w' := ⟨h.os, h.tape, h.output, h.size, fun k hk _ => h.block k hk⟩
theorem Many.below {B : Nat} (h : Many S w w') (hS : ∀ k, S k → B ≤ k) (hs : B ≤ w.heap.size) : Below B w w' :=
  ⟨h.os, h.tape, h.output, h.size, fun k hk => h.block k (by omega) (fun hk' => by have := hS k hk'; omega)⟩
theorem Many.drewN (h : Many S a w) (n : Nat) : Many S a (w.drewN n) := ⟨h.os, h.tape, h.output, h.size, h.block⟩
theorem Many.store (h : Many S a w) {q : Nat} (hq : S q) (i : Nat) (u : Value) : Many S a (w.setCell ⟨q, i, none⟩ u) :=
  h.trans ⟨rfl, rfl, rfl, by simp [World.setCell], fun k _ hk => Below.heap_setCell _ _ _ _ (fun e => hk (by rw [e]; exact hq))⟩
theorem Many.then (h : Many S a b) (k : Below b.heap.size b c) : Many S a c := h.trans (Many.of_below S k)
theorem Sits.many {q t : Nat} {cs : Array Value} (h : Sits w q t cs) (ho : Many S w w') (hq : ¬ S q) : Sits w' q t cs := (ho.block q h.lt hq).trans h
theorem Many.mono {S' : Nat → Prop} (h : Many S a b) (hS : ∀ k, k < a.heap.size → S k → S' k) : Many S' a b := ⟨h.os, h.tape, h.output, h.size, fun k hk hn => h.block k hk fun e => hn (hS k hk e)⟩
/-- What turns later may be what is new now. -/
theorem Many.trans' {S' : Nat → Prop} (h : Many S a b) (k : Many S' b c) (hS : ∀ k, k < a.heap.size → S' k → S k) : Many S a c :=
  ⟨k.os.trans h.os, k.tape.trans h.tape, k.output.trans h.output, Nat.le_trans h.size k.size, fun i hi hs => (k.block i (Nat.lt_of_lt_of_le hi h.size) fun e => hs (hS i hi e)).trans (h.block i hi hs)⟩
theorem Many.alloc (h : Many S a w) (o : Obj) : Many S a (w.alloc o) := h.then ((Below.refl _ _).alloc (Nat.le_refl _) o)
theorem Many.grown {r : Option Nat} (h : Many S a w) (k : w.grownBy w' r) (hr : ∀ b, r = some b → S b) : Many S a w' :=
  h.trans ⟨k.os, k.tape, k.output, k.size, fun i hi hs => k.block i hi fun e => hs (hr i e.symm)⟩
end

end Go.Proofs.Ytbpcbdlmkoajdaa
