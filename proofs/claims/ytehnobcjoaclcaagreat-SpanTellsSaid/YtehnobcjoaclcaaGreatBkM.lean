/- commonsbook's book: one more list is kept, whatever its elements are. -/
import Derived.Test.YtehnobcjoaclcaaGreatBkK
import Derived.Test.YtehnobcjoaclcaaGreatBkG
namespace Go.Proofs.YtehnobcjoaclcaaGreat
open Go Go.RowKit
set_option maxRecDepth 100000
set_option maxHeartbeats 1000000
set_option linter.unusedSimpArgs false

/-- The blocks that turn when one more list is kept. -/
def KT (p : Nat) (iv wv : Value) (k : Nat) : Prop := k = p ∨ iv.ownBlock = some k ∨ wv.ownBlock = some k
/-- One value more in a row of values of one cell. -/
theorem row_more {P : Program} {w : World} {base : Nat} {t tt : TypeId} {z : Value} (he : Elem P tt t z 1 24) {v : Value} {n : Nat} {xs : List Value} (h : RowAt w base t 1 v n xs) {x : Value} (hx : x.oneCell' = true) (ty : TypeId) (hn : n ≤ 250) (hbase : base ≤ w.heap.size) (hu : P.underlying tt = some (.slice t)) :
    ∃ r w', (Builtin.append_ #[tt, tt] ty #[v, .slice (some ⟨w.heap.size, 0, none⟩) 1 1]).run P (w.alloc (.cells #[x] t)) = .ok r w' ∧ RowAt w' base t 1 r (n + 1) (xs ++ [x]) ∧ Many (fun k => v.ownBlock = some k) w w' ∧ ∀ b, r.ownBlock = some b → v.ownBlock = some b ∨ w.heap.size ≤ b := by
  have hmx : maxLen = 9223372036854775807 := by decide
  have hb : Below w.heap.size w (w.alloc (.cells #[x] t)) := (Below.refl _ w).alloc (Nat.le_refl _) _
  have n1 := Sits.fresh w t #[x]
  have src : Src P 1 tt (.slice (some ⟨w.heap.size, 0, none⟩) 1 1) 1 [x] (w.alloc (.cells #[x] t)) :=
    src_slice hu rfl (fun _ => ⟨w.heap.size, 0, rfl, fun j u hu => by rw [Nat.zero_add, n1.cell]; simpa using hu⟩) (fun u hu => by simp only [List.mem_singleton] at hu; subst hu; exact hx)
  obtain ⟨r, w', h1, h2, h3, h4⟩ := appendAt_src he (h.below hb) src ty (by rw [hmx]; omega) (by omega) (by rw [World.size_alloc]; omega)
  refine ⟨r, w', h1, h2, (Many.empty hb _).grown h3 fun b e => e, fun b e => ?_⟩
  rcases h4 with h4 | h4
  · exact .inl (h4 ▸ e)
  · right
    rw [h4] at e
    simp only [Option.some.injEq] at e
    subst e
    rw [World.size_alloc]; omega
theorem KT.ne {w : World} {lo : Nat} {t e tb : TypeId} {size : Nat} {iv wv : Value} {vs ts : List Value} {ls : List (Nat × List Value)} (hK : Kept w lo t e size iv wv vs ts ls) {p : Nat} {cs : Array Value} (hp : Sits w p tb cs) {q : Nat} {t' : TypeId} {c' : Array Value} (hq : Sits w q t' c') (h1 : t' ≠ t) (h2 : t' ≠ tb) : ¬ KT p iv wv q := by
  rintro (rfl | h | h)
  · exact (hq.apart hp h2) rfl
  · obtain ⟨c1, s1⟩ := hK.rowI.sits q h
    exact (hq.apart s1 h1) rfl
  · obtain ⟨c1, s1⟩ := hK.rowW.sits q h
    exact (hq.apart s1 h1) rfl
/-- What is kept when one more list is. -/
theorem Kept.more {w W : World} {lo : Nat} {t e tb : TypeId} {size : Nat} {iv wv r v : Value} {vs ts : List Value} {ls : List (Nat × List Value)} (hK : Kept w lo t e size iv wv vs ts ls) (hL : ls.length < 250) {n : Nat} {X : List Value} {x u : Value} (hx : RowAt w lo e size x n X) (hn : n ≤ 100000)
    (hnew : ∀ g, x.ownBlock = some g → ¬ KS vs g) {p : Nat} {cs : Array Value} (hp : Sits w p tb cs) (hm : Many (KT p iv wv) w W) (hr : RowAt W lo t 1 r (vs.length + 1) (vs ++ [x])) (hv : RowAt W lo t 1 v (ts.length + 1) (ts ++ [u])) (hap : ∀ b, r.ownBlock = some b → v.ownBlock ≠ some b)
    (hu : RowAt W lo e size u n X) (h1 : e ≠ t) (h2 : e ≠ tb) : Kept W lo t e size r v (vs ++ [x]) (ts ++ [u]) (ls ++ [(n, X)]) := by
  have hrow : ∀ {y : Value} {N : Nat} {ys : List Value}, RowAt w lo e size y N ys → RowAt W lo e size y N ys := fun {y N ys} hy => hm.kept hy fun k hk => by
    obtain ⟨c1, s1⟩ := hy.sits k hk
    exact KT.ne hK hp s1 h1 h2
  have hat : ∀ {α : Type} (ks : List α) (a : α) (i : Nat) (b : α), (ks ++ [a])[i]? = some b → (ks[i]? = some b ∧ i < ks.length) ∨ (b = a ∧ i = ks.length) := fun ks a i b hb => by
    by_cases hi : i < ks.length
    · rw [List.getElem?_append_left hi] at hb; exact .inl ⟨hb, hi⟩
    · rw [List.getElem?_append_right (by omega)] at hb
      have hlt := (List.getElem?_eq_some_iff.1 hb).1
      simp only [List.length_singleton] at hlt
      have : i - ks.length = 0 := by omega
      rw [this] at hb
      simp only [List.getElem?_cons_zero, Option.some.injEq] at hb
      exact .inr ⟨hb.symm, by omega⟩
  have l1 := hK.len1
  have l2 := hK.len2
  refine ⟨by rw [List.length_append, List.length_singleton]; exact hr, by rw [List.length_append, List.length_singleton]; exact hv, hap, by simp [l1], by simp [l2], by simp; omega, fun y hy => ?_, fun i y z hy hz => ?_, fun i y z hy hz => ?_, ?_⟩
  · rcases List.mem_append.1 hy with h | h
    · exact hK.small y h
    · simp only [List.mem_singleton] at h; subst h; exact hn
  · rcases hat _ _ _ _ hy with ⟨g1, g2⟩ | ⟨rfl, g2⟩ <;> rcases hat _ _ _ _ hz with ⟨g3, g4⟩ | ⟨rfl, g4⟩
    · exact hrow (hK.kept i y z g1 g3)
    · omega
    · omega
    · exact hrow hx
  · rcases hat _ _ _ _ hy with ⟨g1, g2⟩ | ⟨rfl, g2⟩ <;> rcases hat _ _ _ _ hz with ⟨g3, g4⟩ | ⟨rfl, g4⟩
    · exact hrow (hK.was i y z g1 g3)
    · omega
    · omega
    · exact hu
  · refine List.pairwise_append.2 ⟨hK.nodup, by simp, fun a ha b hb g hga hgb => ?_⟩
    simp only [List.mem_singleton] at hb
    subst hb
    exact hnew g hgb ⟨a, ha, hga⟩
theorem kept_nil {w : World} {lo : Nat} {t e : TypeId} {size : Nat} : Kept w lo t e size (.slice none 0 0) (.slice none 0 0) [] [] [] :=
  ⟨RowAt.nil _ _ _ _, RowAt.nil _ _ _ _, fun b h => by simp [Value.ownBlock] at h, rfl, rfl, by simp, by simp, fun i v x h => by simp at h, fun i v x h => by simp at h, List.Pairwise.nil⟩
end Go.Proofs.YtehnobcjoaclcaaGreat
