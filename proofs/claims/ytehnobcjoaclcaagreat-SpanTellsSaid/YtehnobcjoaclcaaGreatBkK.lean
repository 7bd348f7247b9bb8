/- commonsbook's book: kept lists of one kind, whatever their elements are. -/
import Derived.Test.YtehnobcjoaclcaaGreatBk
import Derived.Test.YtehnobcjoaclcaaGreatGB
namespace Go.Proofs.YtehnobcjoaclcaaGreat
open Go Go.RowKit
set_option maxRecDepth 100000
set_option maxHeartbeats 1000000
set_option linter.unusedSimpArgs false

/-- Kept lists: iv is the row of them (vs), wv the row of what they were (ts); ls: how long each is, and its cells. -/
structure Kept (w : World) (lo : Nat) (t e : TypeId) (size : Nat) (iv wv : Value) (vs ts : List Value) (ls : List (Nat × List Value)) : Prop where
  rowI : RowAt w lo t 1 iv vs.length vs
  rowW : RowAt w lo t 1 wv ts.length ts
  apart : ∀ b, iv.ownBlock = some b → wv.ownBlock ≠ some b
  len1 : vs.length = ls.length
  len2 : ts.length = ls.length
  few : ls.length ≤ 250
  small : ∀ x ∈ ls, x.1 ≤ 100000
  kept : ∀ (i : Nat) v x, vs[i]? = some v → ls[i]? = some x → RowAt w lo e size v x.1 x.2
  was : ∀ (i : Nat) v x, ts[i]? = some v → ls[i]? = some x → RowAt w lo e size v x.1 x.2
  nodup : vs.Pairwise fun u v => ∀ g, u.ownBlock = some g → v.ownBlock ≠ some g
/-- The blocks of kept lists. -/
def KS (vs : List Value) (g : Nat) : Prop := ∃ v ∈ vs, v.ownBlock = some g
theorem ks_at {vs : List Value} {i g : Nat} {v : Value} (h : vs[i]? = some v) (hg : v.ownBlock = some g) : KS vs g := ⟨v, List.mem_of_getElem? h, hg⟩
theorem kept_one {vs : List Value} (h : vs.Pairwise fun u v => ∀ g, u.ownBlock = some g → v.ownBlock ≠ some g) {i j g : Nat} {x y : Value} (hi : vs[i]? = some x) (hj : vs[j]? = some y) (ex : x.ownBlock = some g) (ey : y.ownBlock = some g) : i = j := by
  obtain ⟨hi1, hi2⟩ := List.getElem?_eq_some_iff.1 hi
  obtain ⟨hj1, hj2⟩ := List.getElem?_eq_some_iff.1 hj
  have h' := List.pairwise_iff_getElem.1 h
  rcases Nat.lt_trichotomy i j with e | e | e
  · exact absurd (by rw [hj2]; exact ey) (h' i j hi1 hj1 e g (by rw [hi2]; exact ex))
  · exact e
  · exact absurd (by rw [hi2]; exact ex) (h' j i hj1 hi1 e g (by rw [hj2]; exact ey))
theorem Kept.ks {w : World} {lo : Nat} {t e : TypeId} {size : Nat} {iv wv : Value} {vs ts : List Value} {ls : List (Nat × List Value)} (h : Kept w lo t e size iv wv vs ts ls) {g : Nat} (hg : KS vs g) : (∃ cs, Sits w g e cs) ∧ lo ≤ g := by
  obtain ⟨v, hv, hb⟩ := hg
  obtain ⟨i, hi, rfl⟩ := List.getElem_of_mem hv
  have hr := h.kept i _ _ (List.getElem?_eq_getElem hi) (List.getElem?_eq_getElem (by rw [← h.len1]; exact hi))
  exact ⟨hr.sits g hb, (hr.lt g hb).1⟩
theorem Kept.many {w w' : World} {lo : Nat} {t e : TypeId} {size : Nat} {iv wv : Value} {vs ts : List Value} {ls : List (Nat × List Value)} (h : Kept w lo t e size iv wv vs ts ls) {T : Nat → Prop} (hm : Many T w w')
    (h1 : ∀ k, iv.ownBlock = some k → ¬ T k) (h2 : ∀ k, wv.ownBlock = some k → ¬ T k) (h3 : ∀ k, KS vs k → ¬ T k) (h4 : ∀ k, KS ts k → ¬ T k) : Kept w' lo t e size iv wv vs ts ls :=
  ⟨hm.kept h.rowI h1, hm.kept h.rowW h2, h.apart, h.len1, h.len2, h.few, h.small, fun i v x hv hx => hm.kept (h.kept i v x hv hx) fun k hk => h3 k (ks_at hv hk), fun i v x hv hx => hm.kept (h.was i v x hv hx) fun k hk => h4 k (ks_at hv hk), h.nodup⟩
/-- Three cells of a row are set, and two. -/
theorem set3 (A X : List Value) (n : Nat) (hA : A.length = n) (hX : n + 3 ≤ X.length) (a b c : Value) : (((A ++ X.drop n).set n a).set (n + 1) b).set (n + 2) c = A ++ [a, b, c] ++ X.drop (n + 3) := by
  obtain ⟨x0, x1, x2, Y, h1, h2⟩ : ∃ x0 x1 x2 Y, X.drop n = x0 :: x1 :: x2 :: Y ∧ X.drop (n + 3) = Y :=
    ⟨_, _, _, _, by rw [List.drop_eq_getElem_cons (show n < X.length by omega), List.drop_eq_getElem_cons (show n + 1 < X.length by omega), List.drop_eq_getElem_cons (show n + 1 + 1 < X.length by omega)], rfl⟩
  rw [h1, h2]
  subst hA
  rw [List.set_append_right _ _ (by omega), List.set_append_right _ _ (by omega), List.set_append_right _ _ (by omega)]
  simp
theorem set1 (A X : List Value) (n : Nat) (hA : A.length = n) (hX : n + 1 ≤ X.length) (a : Value) : (A ++ X.drop n).set n a = A ++ [a] ++ X.drop (n + 1) := by
  obtain ⟨x0, Y, h1, h2⟩ : ∃ x0 Y, X.drop n = x0 :: Y ∧ X.drop (n + 1) = Y := ⟨_, _, List.drop_eq_getElem_cons (show n < X.length by omega), rfl⟩
  rw [h1, h2]
  subst hA
  rw [List.set_append_right _ _ (by omega)]
  simp
theorem set2 (A X : List Value) (n : Nat) (hA : A.length = n) (hX : n + 2 ≤ X.length) (a b : Value) : ((A ++ X.drop n).set n a).set (n + 1) b = A ++ [a, b] ++ X.drop (n + 2) := by
  obtain ⟨x0, x1, Y, h1, h2⟩ : ∃ x0 x1 Y, X.drop n = x0 :: x1 :: Y ∧ X.drop (n + 2) = Y :=
    ⟨_, _, _, by rw [List.drop_eq_getElem_cons (show n < X.length by omega), List.drop_eq_getElem_cons (show n + 1 < X.length by omega)], rfl⟩
  rw [h1, h2]
  subst hA
  rw [List.set_append_right _ _ (by omega), List.set_append_right _ _ (by omega)]
  simp
/-- A slice of values, whatever they are. -/
abbrev Vals := SliceAt 1 (fun v : Value => [v])
theorem RowAt.vals {w : World} {base : Nat} {e : TypeId} {v : Value} {vs : List Value} (h : RowAt w base e 1 v vs.length vs) : Vals w v vs := by
  obtain ⟨A, cap, rfl, h2, h3, h4, h5⟩ := h.form
  refine ⟨A, cap, rfl, h2, h3, fun i hi => ?_⟩
  obtain ⟨g, o, rfl⟩ := h4 (by omega)
  obtain ⟨_, h6, h7, _⟩ := h5 g o rfl
  refine ⟨g, o, rfl, h6, fun j u hu => ?_⟩
  rcases j with _ | j
  · simp only [List.getElem?_cons_zero, Option.some.injEq] at hu
    subst hu
    rw [Nat.mul_one, Nat.add_zero]
    exact h7 i _ (List.getElem?_eq_getElem hi)
  · simp at hu
/-- A row's cell, and that it may be set. -/
theorem RowAt.at {w : World} {base : Nat} {e : TypeId} {size g o n cap : Nat} {xs : List Value} (h : RowAt w base e size (.slice (some ⟨g, o, none⟩) n cap) n xs) (q : Nat) (hq : q < n * size) : (∃ u, xs[q]? = some u ∧ w.cell? ⟨g, o + q, none⟩ = some u) ∧ w.frozen? ⟨g, o + q, none⟩ = false := by
  obtain ⟨A, cap', e1, _, _, _, h5⟩ := h.form
  simp only [Value.slice.injEq, true_and] at e1
  obtain ⟨rfl, rfl⟩ := e1
  obtain ⟨_, _, h7, h8⟩ := h5 g o rfl
  have hl := h.1
  exact ⟨⟨xs[q], List.getElem?_eq_getElem (by omega), h7 q _ (List.getElem?_eq_getElem (by omega))⟩, h8 _⟩
end Go.Proofs.YtehnobcjoaclcaaGreat
