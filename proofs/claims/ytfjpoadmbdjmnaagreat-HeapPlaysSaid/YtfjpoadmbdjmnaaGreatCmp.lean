/- cmp.Compare of two ints, and cmp.Or of two. -/
import Derived.Test.YtfjpoadmbdjmnaaGreatKit
import Derived.Test.YtfjpoadmbdjmnaaGreatNum
import Derived.Test.YtfjpoadmbdjmnaaGreatBase
import Derived.Test.YtfjpoadmbdjmnaaGreatHeapP
import Derived.LoopN
import Derived.Handy
namespace Go.Proofs.YtfjpoadmbdjmnaaGreat
open Go Go.RowKit
set_option maxRecDepth 100000
set_option maxHeartbeats 1000000
set_option linter.unusedSimpArgs false

theorem isNaN_int (a : Int) (w : World) : Calls Tryz.prog 134 #[.int .i64 a] w fun e w' => e = .returned (.bool false) ∧ w = w' := by
  go_enter Tryz.func134, Tryz.ntmps134
  go_wp2
  go_ret
  exact ⟨rfl, rfl⟩
def cmpInt (a b : Int) : Int := if a < b then -1 else if b < a then 1 else 0
theorem compare_int (a b : Int) (w : World) : Calls Tryz.prog 92 #[.int .i64 a, .int .i64 b] w fun e w' => e = .returned (.int .i64 (cmpInt a b)) ∧ w = w' := by
  rcases Int.lt_trichotomy a b with h | h | h
  · have d1 : decide (a < b) = true := by simp [h]
    have hr : cmpInt a b = -1 := by simp [cmpInt, h]
    rw [hr]
    go_enter Tryz.func92, Tryz.ntmps92
    go_wp2_with fail
    refine (isNaN_int a w).mono ?_
    rintro e w' ⟨rfl, rfl⟩
    go_wp2_with fail
    refine (isNaN_int b w).mono ?_
    rintro e w' ⟨rfl, rfl⟩
    go_wp2
    go_ret
    exact ⟨rfl, rfl⟩
  · subst h
    have hr : cmpInt a a = 0 := by simp [cmpInt]
    rw [hr]
    have d1 : decide (a < a) = false := by simp
    go_enter Tryz.func92, Tryz.ntmps92
    go_wp2_with fail
    refine (isNaN_int a w).mono ?_
    rintro e w' ⟨rfl, rfl⟩
    go_wp2_with fail
    refine (isNaN_int a w).mono ?_
    rintro e w' ⟨rfl, rfl⟩
    go_wp2
    go_ret
    exact ⟨rfl, rfl⟩
  · have d1 : decide (a < b) = false := by simp; omega
    have d2 : decide (b < a) = true := by simp [h]
    have d3 : decide (a > b) = true := by simp [h]
    have hr : cmpInt a b = 1 := by unfold cmpInt; rw [if_neg (by omega), if_pos h]
    rw [hr]
    go_enter Tryz.func92, Tryz.ntmps92
    go_wp2_with fail
    refine (isNaN_int a w).mono ?_
    rintro e w' ⟨rfl, rfl⟩
    go_wp2_with fail
    refine (isNaN_int b w).mono ?_
    rintro e w' ⟨rfl, rfl⟩
    go_wp2
    go_ret
    exact ⟨rfl, rfl⟩
/-- cmp.Or of two: the first that is not zero. -/
theorem or_two (g T : Nat) (a b : Int) (w : World) (h : Sits w g T #[.int .i64 a, .int .i64 b]) :
    Calls Tryz.prog 91 #[.slice (some ⟨g, 0, none⟩) 2 2] w fun e w' => e = .returned (.int .i64 (if a = 0 then b else a)) ∧ w = w' := by
  have c0 := h.cell 0
  have c1 := h.cell 1
  simp at c0 c1
  clear h
  by_cases ha : a = 0
  · by_cases hb : b = 0
    · subst ha hb
      go_enter Tryz.func91, Tryz.ntmps91
      go_wp2
      refine wp_loop_rounds 3 ?_
      repeat any_goals (rw [rounds_succ]; go_wp2)
      go_ret
      exact ⟨rfl, rfl⟩
    · have d2 : decide (b = 0) = false := by simp [hb]
      subst ha
      go_enter Tryz.func91, Tryz.ntmps91
      go_wp2
      refine wp_loop_rounds 3 ?_
      repeat any_goals (rw [rounds_succ]; go_wp2)
      go_ret
      exact ⟨rfl, rfl⟩
  · have d1 : decide (a = 0) = false := by simp [ha]
    rw [if_neg ha]
    go_enter Tryz.func91, Tryz.ntmps91
    go_wp2
    refine wp_loop_rounds 3 ?_
    repeat any_goals (rw [rounds_succ]; go_wp2)
    go_ret
    exact ⟨rfl, rfl⟩
theorem cf_or {α : Type} (x y : HeapP.It α) : HeapP.cf x y = if cmpInt x.t y.t = 0 then cmpInt x.id y.id else cmpInt x.t y.t := by
  unfold HeapP.cf cmpInt
  rcases Int.lt_trichotomy x.t y.t with h | h | h
  · simp [h]
  · simp [h]
  · have : ¬ x.t < y.t := by omega
    simp [h, this]

end Go.Proofs.YtfjpoadmbdjmnaaGreat
