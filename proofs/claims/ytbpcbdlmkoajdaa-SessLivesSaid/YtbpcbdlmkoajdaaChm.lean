/- A region that draws its order, with calls that come one behind the other, any number of them: what holds of the world when the first m have come up. -/
import Derived.Test.YtbpcbdlmkoajdaaFlatV
namespace Go.Proofs.Ytbpcbdlmkoajdaa
open Go Go.RowKit
set_option maxRecDepth 100000

/-- Of the operations ks, which come in this order, the first m have come up, and R m holds. -/
def ClsN (ks : List Nat) (R : Nat → World → Prop) (d : Nat → Option Value) (W : World) : Prop :=
  ∃ m, m ≤ ks.length ∧ (∀ t k, ks[t]? = some k → t < m → (d k).isSome = true) ∧ (∀ t k, ks[t]? = some k → m ≤ t → d k = none) ∧ R m W
section
variable {ks : List Nat} {R : Nat → World → Prop} {d : Nat → Option Value} {W W' : World}
theorem ClsN.start (h : R 0 W) : ClsN ks R (fun _ => none) W := ⟨0, Nat.zero_le _, fun _ _ _ h => by omega, fun _ _ _ _ => rfl, h⟩
theorem ClsN.pure {k : Nat} (hk : k ∉ ks) {v : Value} (h : ClsN ks R d W) : ClsN ks R (setv d k v) W := by
  obtain ⟨m, h1, h2, h3, h4⟩ := h
  have hne : ∀ t j, ks[t]? = some j → k ≠ j := fun t j hj e => hk (e ▸ List.mem_of_getElem? hj)
  refine ⟨m, h1, fun t j hj ht => ?_, fun t j hj ht => ?_, h4⟩
  · rw [setv_other d v (hne t j hj)]
    exact h2 t j hj ht
  · rw [setv_other d v (hne t j hj)]
    exact h3 t j hj ht
/-- Operation number t of them has not come up, and all ahead of it have. -/
theorem ClsN.here {t k : Nat} (h : ClsN ks R d W) (hk : ks[t]? = some k) (hd : d k = none) (hp : ∀ j, ks[t - 1]? = some j → 0 < t → (d j).isSome = true) : R t W := by
  obtain ⟨m, h1, h2, h3, h4⟩ := h
  have hlt := (List.getElem?_eq_some_iff.1 hk).1
  have hm : m ≤ t := by
    rcases Nat.lt_or_ge t m with h | h
    · have := h2 t k hk h
      rw [hd] at this
      cases this
    · exact h
  have hm2 : t ≤ m := by
    rcases Nat.lt_or_ge m t with h | h
    · have e : ks[t - 1]? = some ks[t - 1] := List.getElem?_eq_getElem (by omega)
      have a := h3 (t - 1) _ e (by omega)
      have b := hp _ e (by omega)
      rw [a] at b
      cases b
    · exact h
  obtain rfl : m = t := by omega
  exact h4
/-- It comes up. -/
theorem ClsN.step {t k : Nat} (h : ClsN ks R d W) (hn : ks.Nodup) (hk : ks[t]? = some k) (hd : d k = none) (hp : ∀ j, ks[t - 1]? = some j → 0 < t → (d j).isSome = true) {v : Value} (hr : R (t + 1) W') : ClsN ks R (setv d k v) W' := by
  obtain ⟨m, h1, h2, h3, h4⟩ := h
  have hlt := (List.getElem?_eq_some_iff.1 hk).1
  have hm : m ≤ t := by
    rcases Nat.lt_or_ge t m with h | h
    · have := h2 t k hk h
      rw [hd] at this
      cases this
    · exact h
  have hm2 : t ≤ m := by
    rcases Nat.lt_or_ge m t with h | h
    · have e : ks[t - 1]? = some ks[t - 1] := List.getElem?_eq_getElem (by omega)
      have a := h3 (t - 1) _ e (by omega)
      have b := hp _ e (by omega)
      rw [a] at b
      cases b
    · exact h
  obtain rfl : m = t := by omega
  have hne : ∀ s j, ks[s]? = some j → s ≠ m → k ≠ j := fun s j hj hs e => by
    subst e
    have hs' := (List.getElem?_eq_some_iff.1 hj).1
    have e1 := (List.getElem?_eq_some_iff.1 hj).2
    have e2 := (List.getElem?_eq_some_iff.1 hk).2
    have hp := List.pairwise_iff_getElem.1 hn
    rcases Nat.lt_or_gt_of_ne hs with h | h
    · exact hp s m hs' hlt h (e1.trans e2.symm)
    · exact hp m s hlt hs' h (e2.trans e1.symm)
  refine ⟨m + 1, by omega, fun s j hj hs => ?_, fun s j hj hs => ?_, hr⟩
  · by_cases e : s = m
    · subst e
      rw [hk] at hj
      cases hj
      rw [setv_same]
      rfl
    · rw [setv_other d v (hne s j hj e)]
      exact h2 s j hj (by omega)
  · rw [setv_other d v (hne s j hj (by omega))]
    exact h3 s j hj (by omega)
theorem ClsN.all {C : World → Prop} (h : ClsN ks R d W) (hc : ∀ m W, R m W → C W) : C W := by
  obtain ⟨m, _, _, _, h4⟩ := h
  exact hc m W h4
theorem ClsN.turn (h : ClsN ks R d W) (hc : ∀ m, R m W → R m W') : ClsN ks R d W' := by
  obtain ⟨m, h1, h2, h3, h4⟩ := h
  exact ⟨m, h1, h2, h3, hc m h4⟩
theorem ClsN.done {t k : Nat} (h : ClsN ks R d W) (hk : ks[t]? = some k) (hl : ks.length = t + 1) (hd : (d k).isSome = true) : R (t + 1) W := by
  obtain ⟨m, h1, h2, h3, h4⟩ := h
  have hm : t < m := by
    rcases Nat.lt_or_ge t m with h | h
    · exact h
    · have := h3 t k hk h
      rw [this] at hd
      cases hd
  obtain rfl : m = t + 1 := by omega
  exact h4
end
/-- Beside them one operation stores what a block g has from then on. -/
def ClsNS (ks : List Nat) (R : Nat → World → Prop) (k : Nat) (g t : Nat) (A B : Array Value) (d : Nat → Option Value) (W : World) : Prop := ClsN ks R d W ∧ Sits W g t (if (d k).isSome = true then B else A)
end Go.Proofs.Ytbpcbdlmkoajdaa
