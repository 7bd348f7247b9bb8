/- Package lru at int: a cache beside what else turns. -/
import Derived.Test.YthmfbcaidlgkbaaGreatLruFII
import Derived.Test.YthmfbcaidlgkbaaGreatRowAt
namespace Go.Proofs.YthmfbcaidlgkbaaGreat
open Go Go.RowKit Go.Maps LruP
set_option maxRecDepth 100000

section
variable {w w' : World} {cb lo c : Nat} {room : Int} {T : List (Slot Int Int)}
theorem LruAtII.many {S : Nat → Prop} (h : LruAtII w cb lo c room T) (hm : Many S w w') (hS : ∀ k, k < w.heap.size → S k → ∃ t cs, Sits w k t cs ∧ t ≠ 33 ∧ t ≠ 80 ∧ t ≠ 71) : LruAtII w' cb lo c room T := by
  have key : ∀ k t cs, Sits w k t cs → (t = 33 ∨ t = 80 ∨ t = 71) → ¬ S k := fun k t cs hs ht hk => by
    obtain ⟨t', cs', hs', n1, n2, n3⟩ := hS k hs.lt hk
    have e := (show w.heap[k]? = some _ from hs).symm.trans hs'
    simp at e
    obtain ⟨_, rfl⟩ := e
    rcases ht with h | h | h
    · exact n1 h
    · exact n2 h
    · exact n3 h
  have keym : ∀ k es ck, w.heap[k]? = some (.map es ck) → ¬ S k := fun k es ck hs hk => by
    have hlt : k < w.heap.size := (Array.getElem?_eq_some_iff.1 hs).1
    obtain ⟨t', cs', hs', _⟩ := hS k hlt hk
    exact absurd (hs.symm.trans hs') (by simp)
  rcases h with ⟨h1, h2, h3, h4⟩ | ⟨z, m, nx, L, h, hT⟩
  · exact .inl ⟨h1, h2, h3, h4.many hm (key _ _ _ h4 (.inl rfl))⟩
  · refine .inr ⟨z, m, nx, L, ⟨h.sits.many hm (key _ _ _ h.sits (.inl rfl)), h.shelf.many hm fun b hb => ?_, h.fits, h.cb, h.uses⟩, hT⟩
    rcases hb with rfl | rfl | hb
    · obtain ⟨D, ⟨es, ck, h1, _⟩, _⟩ := h.shelf.map
      exact keym _ _ _ h1
    · exact key _ _ _ h.shelf.chain.head (.inr (.inl rfl))
    · obtain ⟨e, he, rfl⟩ := List.mem_map.1 hb
      exact key _ _ _ (h.shelf.chain.nodes e he) (.inr (.inr rfl))
/-- .. beside a list that is appended to. -/
theorem LruAtII.row {base : Nat} {e : TypeId} {size : Nat} {v : Value} {n : Nat} {xs : List Value} (h : LruAtII w cb lo c room T) (hr : RowAt w base e size v n xs) (hm : Many (fun k => v.ownBlock = some k) w w') (n1 : e ≠ 33) (n2 : e ≠ 80) (n3 : e ≠ 71) :
    LruAtII w' cb lo c room T := h.many hm fun k _ hk => by
  obtain ⟨cur, hc⟩ := hr.sits k hk
  exact ⟨e, cur, hc, n1, n2, n3⟩
theorem RowAt.shyLII {base : Nat} {e : TypeId} {size : Nat} {v : Value} {n : Nat} {xs : List Value} (h : RowAt w base e size v n xs) (hs : ShyLII w w') (h2 : e ≠ 80) (h3 : e ≠ 71) : RowAt w' base e size v n xs :=
  h.keep fun k hk => by
    obtain ⟨cur, hc⟩ := h.sits k hk
    have h4 : w.heap[k]? = some (.cells cur e (0, 0)) := hc
    rw [h4]
    exact hs.sits hc h2 h3
end
end Go.Proofs.YthmfbcaidlgkbaaGreat
