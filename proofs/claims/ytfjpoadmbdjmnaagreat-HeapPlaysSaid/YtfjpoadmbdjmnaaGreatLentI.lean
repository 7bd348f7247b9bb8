/- The statements' own lists of ints with room behind them, in which a mark stands (commonsbook's LentInts, StaysInts, copyInts). -/
import Derived.Test.YtfjpoadmbdjmnaaGreatLent
import Derived.Test.YtfjpoadmbdjmnaaGreatIntRow
namespace Go.Proofs.YtfjpoadmbdjmnaaGreat
open Go Go.RowKit
set_option maxRecDepth 100000
set_option maxHeartbeats 1000000
set_option linter.unusedSimpArgs false

theorem Lent.ints {w : World} {base : Nat} {v : Value} {l : List Int} {mark : List Value} (h : Lent w base v l.length (vals l) mark) : Ints w v l := by
  obtain ⟨g, cap, rfl, h1, h2, h3, h4, h5⟩ := h
  refine ⟨_, cap, rfl, by omega, h2, fun i hi => ⟨g, 0, rfl, h4, fun j u hu => ?_⟩⟩
  rcases j with _ | j
  · simp only [List.getElem?_cons_zero, Option.some.injEq] at hu
    subst hu
    rw [Nat.zero_add, Nat.mul_one, Nat.add_zero]
    exact h5 i _ (by rw [List.getElem?_append_left (by rw [vals_length]; exact hi)]; simp [vals, hi])
  · simp at hu
theorem copyInts_any (v : Value) (l : List Int) (w : World) (h : Ints w v l) (hn : l.length ≤ 1000000) :
    Calls Tryz.prog 26 #[v] w fun e w' => ∃ u, e = .returned u ∧ IRow w' w.heap.size u l ∧ Below w.heap.size w w' := by
  obtain ⟨A, cap, rfl, hcap, hmax, _⟩ := h.one_
  have HM := Lib.hid (show maxLen = 9223372036854775807 by decide)
  obtain ⟨v1, w1, hr1, own1, gr1, at1⟩ := append_src (w := w) (tx := 63) elem_int (World.ownsRow_nil w w.heap.size 3 1) h.src 63 (by rw [HM.out]; omega) (by omega) (Nat.le_refl _)
  have hb1 : Below w.heap.size w w1 := (Below.refl _ _).grown gr1 (Nat.le_refl _) (by simp [Value.ownBlock])
  rw [Nat.zero_add, List.nil_append] at own1
  have OWN := Lib.hid (RowAt.ofOwn own1)
  have HB := Lib.hid hb1
  have HR1 := Lib.hid hr1
  clear own1 gr1 at1 hb1 hr1
  go_enter Tryz.func26, Tryz.ntmps26
  go_wp2_with (at_builtin; refine wpList_append_eq rfl (.const (.slice none 0 0)) (.tmp 3) 63 63 rfl _ _ _ rfl rfl HR1.out ?_)
  go_ret
  exact ⟨_, rfl, OWN.out, HB.out⟩
end Go.Proofs.YtfjpoadmbdjmnaaGreat
