/- A region that draws its order and makes one block, which is then written once: how far that block is (for wp_region_exV). -/
import Derived.Test.YtbpcbdlmkoajdaaFlatV
namespace Go.Proofs.Ytbpcbdlmkoajdaa
open Go Go.RowKit
set_option maxRecDepth 100000

/-- Operation number i makes a block of type T with the cells zs, number j writes the cells cs into it; nothing else turns the world but above what was there. -/
structure ClsK (wr : World) (i j : Nat) (T : TypeId) (zs cs : Array Value) (d : Nat → Option Value) (W : World) : Prop where
  low : Below wr.heap.size wr W
  ord : d i = none → d j = none
  at_ : ∀ v, d i = some v → ∃ g, v = .pointer (some ⟨g, 0, none⟩) ∧ wr.heap.size ≤ g ∧ Sits W g T (if d j = none then zs else cs)
section
variable {wr W W' : World} {i j : Nat} {T : TypeId} {zs cs : Array Value} {d : Nat → Option Value} {k : Nat}
theorem ClsK.start (wr : World) (i j : Nat) (T : TypeId) (zs cs : Array Value) : ClsK wr i j T zs cs (fun _ => none) wr.drew := ⟨(Below.refl _ _).drew, fun _ => rfl, fun v h => by simp at h⟩
theorem ClsK.step (h : ClsK wr i j T zs cs d W) (h1 : k ≠ i) (h2 : k ≠ j) (v : Value) (hb : Below W.heap.size W W') : ClsK wr i j T zs cs (setv d k v) W' := by
  refine ⟨h.low.trans (hb.mono h.low.size), ?_, ?_⟩ <;> rw [setv_other d v h1, setv_other d v h2]
  · exact h.ord
  · intro x hx
    obtain ⟨g, e, hg, hs⟩ := h.at_ x hx
    exact ⟨g, e, hg, hs.below' hb⟩
theorem ClsK.pure (h : ClsK wr i j T zs cs d W) (h1 : k ≠ i) (h2 : k ≠ j) (v : Value) : ClsK wr i j T zs cs (setv d k v) W := h.step h1 h2 v (Below.refl _ _)
theorem ClsK.make (h : ClsK wr i j T zs cs d W) (hij : i ≠ j) (hd : d i = none) : ClsK wr i j T zs cs (setv d i (.pointer (some ⟨W.heap.size, 0, none⟩))) (W.alloc (.cells zs T)) := by
  have h12 := h.ord hd
  refine ⟨h.low.alloc h.low.size _, ?_, ?_⟩ <;> rw [setv_other d _ hij, h12]
  · exact fun _ => rfl
  · intro x hx
    rw [setv_same] at hx
    injection hx with hx
    exact ⟨_, hx.symm, h.low.size, Sits.fresh W _ _⟩
theorem ClsK.old (h : ClsK wr i j T zs cs d W) (hd : d j = none) {g : Nat} (h11 : d i = some (.pointer (some ⟨g, 0, none⟩))) : wr.heap.size ≤ g ∧ Sits W g T zs := by
  obtain ⟨g', e, hg, hs⟩ := h.at_ _ h11
  rw [if_pos hd] at hs
  injection e with e
  injection e with e
  injection e with e _ _
  subst e
  exact ⟨hg, hs⟩
theorem ClsK.put (h : ClsK wr i j T zs cs d W) (hij : i ≠ j) {g : Nat} (h11 : d i = some (.pointer (some ⟨g, 0, none⟩))) (hb : Below wr.heap.size wr W') (hs : Sits W' g T cs) : ClsK wr i j T zs cs (setv d j undef) W' := by
  obtain ⟨g', e, hg, _⟩ := h.at_ _ h11
  injection e with e
  injection e with e
  injection e with e _ _
  subst e
  refine ⟨hb, ?_, ?_⟩ <;> rw [setv_other d _ (Ne.symm hij), setv_same]
  · intro e
    rw [e] at h11
    cases h11
  · intro x hx
    rw [h11] at hx
    injection hx with hx
    exact ⟨g, hx.symm, hg, by rw [if_neg (by simp)]; exact hs⟩
theorem ClsK.done (h : ClsK wr i j T zs cs d W) {g : Nat} (h11 : d i = some (.pointer (some ⟨g, 0, none⟩))) (h12 : (d j).isSome = true) : wr.heap.size ≤ g ∧ Sits W g T cs := by
  obtain ⟨g', e, hg, hs⟩ := h.at_ _ h11
  rw [if_neg (by intro e2; rw [e2] at h12; cases h12)] at hs
  injection e with e
  injection e with e
  injection e with e _ _
  subst e
  exact ⟨hg, hs⟩
end
end Go.Proofs.Ytbpcbdlmkoajdaa
