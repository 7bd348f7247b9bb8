/- Small facts on memory that this seat's proofs share: a block that is known whole, and worlds in which one block alone has turned. -/
import Derived.Handy
import Derived.Lib.Hide
import Derived.IntWalk
import Derived.Deep.Draws
import Derived.Laws.OwnMore
import Derived.Laws.Rows
namespace Go.Proofs.Ytbpcbdlmkoajdaa
open Go Go.RowKit

/-- Block g is the cells cs of type t, and none of them is frozen. -/
def Sits (w : World) (g : Nat) (t : TypeId) (cs : Array Value) : Prop := w.heap[g]? = some (.cells cs t (0, 0))

section
variable {w w' : World} {g : Nat} {t : TypeId} {cs : Array Value}
theorem Sits.lt (h : Sits w g t cs) : g < w.heap.size := by
  false_or_by_contra
  have e := Array.getElem?_eq_none (xs := w.heap) (i := g) (by omega)
  exact Option.some_ne_none _ ((show w.heap[g]? = some _ from h).symm.trans e)
theorem Sits.cell (h : Sits w g t cs) (i : Nat) : w.cell? ⟨g, i, none⟩ = cs[i]? := cell_of_row w g i cs t (0, 0) h
theorem Sits.warm (h : Sits w g t cs) (i : Nat) : w.frozen? ⟨g, i, none⟩ = false := by
  have e : w.heap[g]? = some (.cells cs t (0, 0)) := h
  simp [World.frozen?, e]
theorem Sits.fresh (w : World) (t : TypeId) (cs : Array Value) : Sits (w.alloc (.cells cs t)) w.heap.size t cs := heap_alloc_new w _
theorem Sits.drew (h : Sits w g t cs) : Sits w.drew g t cs := h
theorem Sits.alloc (h : Sits w g t cs) (o : Obj) : Sits (w.alloc o) g t cs := (Below.heap_alloc w o g h.lt).trans h
theorem Sits.put (h : Sits w g t cs) (i : Nat) (u : Value) : Sits (w.setCell ⟨g, i, none⟩ u) g t (cs.setIfInBounds i u) := by
  have e : w.heap[g]? = some (.cells cs t (0, 0)) := h
  show (w.setCell ⟨g, i, none⟩ u).heap[g]? = _
  simp [World.setCell, Array.getElem?_modify, e]
theorem Sits.away (h : Sits w g t cs) {p : Addr} (hp : g ≠ p.block) (u : Value) : Sits (w.setCell p u) g t cs := (Below.heap_setCell w p u g hp).trans h
theorem Sits.below {B : Nat} (h : Sits w g t cs) (hb : Below B w w') (hg : g < B) : Sits w' g t cs := (hb.block g hg).trans h
theorem Sits.below' (h : Sits w g t cs) (hb : Below w.heap.size w w') : Sits w' g t cs := h.below hb h.lt
theorem Sits.apart {g' : Nat} {t' : TypeId} {cs' : Array Value} (h : Sits w g t cs) (h' : Sits w g' t' cs') (hne : t ≠ t') : g ≠ g' := by
  intro e
  subst e
  have := (show w.heap[g]? = _ from h).symm.trans h'
  injection this with this
  injection this with _ ht
  exact hne ht
end

/-- Of the blocks that w has, block p alone may have turned in w'. -/
structure Only (p : Nat) (w w' : World) : Prop where
  os : w'.os = w.os
  tape : w'.tape = w.tape
  output : w'.output = w.output
  size : w.heap.size ≤ w'.heap.size
  block : ∀ k, k < w.heap.size → k ≠ p → w'.heap[k]? = w.heap[k]?

section
variable {a b c w w' : World} {p : Nat}
theorem Only.refl (p : Nat) (w : World) : Only p w w := ⟨rfl, rfl, rfl, Nat.le_refl _, fun _ _ _ => rfl⟩
theorem Only.trans (h : Only p a b) (k : Only p b c) : Only p a c :=
  ⟨k.os.trans h.os, k.tape.trans h.tape, k.output.trans h.output, Nat.le_trans h.size k.size,
    fun i hi hp => (k.block i (Nat.lt_of_lt_of_le hi h.size) hp).trans (h.block i hi hp)⟩
theorem Only.of_below (p : Nat) (h : Below w.heap.size w w') : Only p w w' := ⟨h.os, h.tape, h.output, h.size, fun k hk _ => h.block k hk⟩
theorem Only.below {B : Nat} (h : Only p w w') (hB : B ≤ p) (hs : B ≤ w.heap.size) : Below B w w' :=
  ⟨h.os, h.tape, h.output, h.size, fun k hk => h.block k (by omega) (by omega)⟩
theorem Only.drew (h : Only p a w) : Only p a w.drew := ⟨h.os, h.tape, h.output, h.size, h.block⟩
theorem Only.alloc (h : Only p a w) (o : Obj) : Only p a (w.alloc o) :=
  h.trans (Only.of_below p ((Below.refl _ _).alloc (Nat.le_refl _) o))
theorem Only.store (h : Only p a w) (i : Nat) (u : Value) : Only p a (w.setCell ⟨p, i, none⟩ u) :=
  h.trans ⟨rfl, rfl, rfl, by simp [World.setCell], fun k _ hk => Below.heap_setCell _ _ _ _ hk⟩
theorem Only.then (h : Only p a b) (k : Below b.heap.size b c) : Only p a c := h.trans (Only.of_below p k)
theorem Sits.only {g : Nat} {t : TypeId} {cs : Array Value} (h : Sits w g t cs) (ho : Only p w w') (hg : g ≠ p) : Sits w' g t cs := (ho.block g h.lt hg).trans h
theorem Below.then_only {B : Nat} (h : Below B a b) (k : Only p b c) (hB : B ≤ p) (hs : B ≤ b.heap.size) : Below B a c := h.trans (k.below hB hs)
theorem below_drewN {B : Nat} (h : Below B a w) (n : Nat) : Below B a (w.drewN n) := ⟨h.os, h.tape, h.output, h.size, h.block⟩
end
end Go.Proofs.Ytbpcbdlmkoajdaa
