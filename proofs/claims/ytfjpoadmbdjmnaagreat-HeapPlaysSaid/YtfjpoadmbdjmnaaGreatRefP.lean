/- For commonsref1's Heap.Put: an append of nothing, and where an item comes to stand. -/
import Derived.Test.YtfjpoadmbdjmnaaGreatRefH
namespace Go.Proofs.YtfjpoadmbdjmnaaGreat
open Go Go.RowKit HeapP
set_option maxRecDepth 100000
set_option maxHeartbeats 2000000
set_option linter.unusedSimpArgs false

theorem append_zero {P : Program} {w : World} {t tx e : TypeId} {z : Value} {size bytes : Nat} (he : Elem P t e z size bytes) {x : Value} {news : List Value} (hs : Src P size tx x 0 news w) (ty : TypeId) (A : Option Addr) (n cap : Nat) (hn : n ≤ cap) :
    (Builtin.append_ #[t, tx] ty #[.slice A n cap, x]).run P w = .ok (.slice A n cap) w := by
  obtain ⟨i0, hi, hz0, rfl, rfl⟩ := info_parts he.info
  obtain rfl : news = [] := List.eq_nil_of_length_eq_zero (by simpa using hs.newsLen)
  have ht := he.slice
  have hl := hs.len
  have hc := hs.cells
  cases A <;> rcases hs.kind with ⟨e', hk⟩ | hk <;> simp [Builtin.append_, run_underlying ht, run_underlying hk, sizeOf, typeInfo, hi, hl, hc, hn, storeCells]

theorem ins_split {α : Type} [Inhabited α] (x : HeapP.It α) : ∀ (L : List (HeapP.It α)) (k : Nat), k ≤ L.length → (∀ j, j < k → (gt L j).t ≤ x.t) → (k < L.length → x.t < (gt L k).t) → ins x L = L.take k ++ x :: L.drop k
  | [], k, hk, _, _ => by
    have : k = 0 := by simpa using hk
    subst this; rfl
  | y :: r, 0, _, _, h => by
    have := h (by simp)
    unfold ins
    rw [if_neg (by unfold gt at this; simp at this; omega)]
    rfl
  | y :: r, k + 1, hk, h1, h2 => by
    have := h1 0 (by omega)
    unfold ins
    rw [if_pos (by unfold gt at this; simpa using this), ins_split x r k (by simpa using hk) (fun j hj => by have := h1 (j + 1) (by omega); unfold gt at this ⊢; simpa using this) (fun hlt => by have := h2 (by simpa using hlt); unfold gt at this ⊢; simpa using this)]
    rfl
end Go.Proofs.YtfjpoadmbdjmnaaGreat
