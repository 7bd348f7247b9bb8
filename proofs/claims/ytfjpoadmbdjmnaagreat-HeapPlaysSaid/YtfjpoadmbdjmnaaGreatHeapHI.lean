/- Package heap: a Heap[int] stays where blocks of other kinds turn. -/
import Derived.Test.YtfjpoadmbdjmnaaGreatHeapFI
namespace Go.Proofs.YtfjpoadmbdjmnaaGreat
open Go Go.RowKit Go.Maps HeapP
set_option maxRecDepth 100000
set_option linter.unusedSimpArgs false

theorem PileFI.keep {w w' : World} {p lo n : Nat} {last : Int} {L : List (HeapP.It Int)} (h : PileFI w p lo n last L) (hk : ∀ b, BlkI w b → w'.heap[b]? = w.heap[b]?) : PileFI w' p lo n last L := by
  obtain ⟨h1, l, D, hF, ⟨h2, m, h3, h4, es, ck, h5, h6⟩ | ⟨g, m, cap, h2, h3, h4⟩⟩ := h
  · exact ⟨h1, l, D, hF, .inl ⟨h2, m, h3, (hk p (.inl ⟨_, h4⟩)).trans h4, es, ck, (hk m (.inr (.inr ⟨_, _, h5⟩))).trans h5, h6⟩⟩
  · exact ⟨h1, l, D, hF, .inr ⟨g, m, cap, h2, h3, h4.keep fun b hb => hk b (h4.tri hb)⟩⟩
theorem HeapAtI.more {w : World} {hb lo c c' : Nat} {last : Int} {L : List (HeapP.It Int)} (h : HeapAtI w hb lo c last L) (hc : c ≤ c') (hu : c' ≤ 1000000) : HeapAtI w hb lo c' last L := by
  refine { h with uses := hu, at_ := ?_ }
  rcases h.at_ with e | ⟨p, e1, e2⟩
  · exact .inl e
  · exact .inr ⟨p, e1, e2.mono (by omega)⟩
/-- A heap stays, whatever is stored in a block of another kind. -/
theorem HeapAtI.away {w : World} {hb lo c : Nat} {last : Int} {L : List (HeapP.It Int)} (h : HeapAtI w hb lo c last L) {q t : Nat} {cs : Array Value} (hs : Sits w q t cs) (h1 : t ≠ 32) (h2 : t ≠ 75) (h3 : t ≠ 71) (i : Nat) (u : Value) :
    HeapAtI (w.setCell ⟨q, i, none⟩ u) hb lo c last L := by
  have hq : ∀ b, BlkI w b → (w.setCell ⟨q, i, none⟩ u).heap[b]? = w.heap[b]? := fun b hb' => by
    refine Below.heap_setCell _ _ _ _ fun e => ?_
    simp only at e
    subst e
    unfold BlkI at hb'
    rcases hb' with ⟨_, hk⟩ | ⟨_, hk⟩ | ⟨_, _, hk⟩
    · exact (Sits.apart hk hs (Ne.symm h2)) rfl
    · exact (Sits.apart hk hs (Ne.symm h3)) rfl
    · exact absurd (hk.symm.trans hs) (by simp)
  refine { h with at_ := ?_ }
  rcases h.at_ with ⟨e1, e2, e3⟩ | ⟨p, e1, e2⟩
  · exact .inl ⟨e1, e2, e3.away (p := ⟨q, i, none⟩) (e3.apart hs (Ne.symm h1)) u⟩
  · exact .inr ⟨p, e1.away (p := ⟨q, i, none⟩) (e1.apart hs (Ne.symm h1)) u, e2.keep hq⟩

end Go.Proofs.YtfjpoadmbdjmnaaGreat
