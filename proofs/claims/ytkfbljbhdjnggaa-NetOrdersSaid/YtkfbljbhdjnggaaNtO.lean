/- The statement NetOrders of package net, where its numbers are out of their bounds: one alive call. -/
import Derived.Test.YtkfbljbhdjnggaaNtF
namespace Go.Proofs.Ytkfbljbhdjnggaa
open Go Go.RowKit NetP
set_option maxRecDepth 100000
set_option maxHeartbeats 4000000
set_option linter.unusedSimpArgs false

theorem netOrders_out (n k j a b : Int) (h : n < 1 ∨ 40 < n ∨ k < 0 ∨ n ≤ k ∨ j < 0 ∨ n < j ∨ a < 0 ∨ n ≤ a ∨ b < 0 ∨ n ≤ b) (w : World) : Calls Try.prog 5 #[.int .i64 n, .int .i64 k, .int .i64 j, .int .i64 a, .int .i64 b] w fun e w' => e = .returned (.bool true) ∧ Below w.heap.size w w' := by
  have HA := Lib.hid alive14_any
  have hd : ∃ q0 q1 q2 q3 q4 q5 q6 q7 q8 q9 : Bool, decide (n < 1) = q0 ∧ decide (40 < n) = q1 ∧ decide (k < 0) = q2 ∧ decide (n ≤ k) = q3 ∧ decide (j < 0) = q4 ∧ decide (n < j) = q5 ∧ decide (a < 0) = q6 ∧ decide (n ≤ a) = q7 ∧ decide (b < 0) = q8 ∧ decide (n ≤ b) = q9 ∧
      (q0 = true ∨ (q0 = false ∧ q1 = true) ∨ (q0 = false ∧ q1 = false ∧ q2 = true) ∨ (q0 = false ∧ q1 = false ∧ q2 = false ∧ q3 = true) ∨ (q0 = false ∧ q1 = false ∧ q2 = false ∧ q3 = false ∧ q4 = true) ∨ (q0 = false ∧ q1 = false ∧ q2 = false ∧ q3 = false ∧ q4 = false ∧ q5 = true) ∨ (q0 = false ∧ q1 = false ∧ q2 = false ∧ q3 = false ∧ q4 = false ∧ q5 = false ∧ q6 = true) ∨ (q0 = false ∧ q1 = false ∧ q2 = false ∧ q3 = false ∧ q4 = false ∧ q5 = false ∧ q6 = false ∧ q7 = true) ∨ (q0 = false ∧ q1 = false ∧ q2 = false ∧ q3 = false ∧ q4 = false ∧ q5 = false ∧ q6 = false ∧ q7 = false ∧ q8 = true) ∨ (q0 = false ∧ q1 = false ∧ q2 = false ∧ q3 = false ∧ q4 = false ∧ q5 = false ∧ q6 = false ∧ q7 = false ∧ q8 = false ∧ q9 = true)) := by
    refine ⟨_, _, _, _, _, _, _, _, _, _, rfl, rfl, rfl, rfl, rfl, rfl, rfl, rfl, rfl, rfl, ?_⟩
    simp only [decide_eq_true_eq, decide_eq_false_iff_not]
    omega
  obtain ⟨q0, q1, q2, q3, q4, q5, q6, q7, q8, q9, e0, e1, e2, e3, e4, e5, e6, e7, e8, e9, hq⟩ := hd
  clear h
  rcases hq with rfl | ⟨rfl, rfl⟩ | ⟨rfl, rfl, rfl⟩ | ⟨rfl, rfl, rfl, rfl⟩ | ⟨rfl, rfl, rfl, rfl, rfl⟩ | ⟨rfl, rfl, rfl, rfl, rfl, rfl⟩ | ⟨rfl, rfl, rfl, rfl, rfl, rfl, rfl⟩ | ⟨rfl, rfl, rfl, rfl, rfl, rfl, rfl, rfl⟩ | ⟨rfl, rfl, rfl, rfl, rfl, rfl, rfl, rfl, rfl⟩ | ⟨rfl, rfl, rfl, rfl, rfl, rfl, rfl, rfl, rfl, rfl⟩
  all_goals
    go_enter Try.func5, Try.ntmps5
    go_wp2_with fail
    refine (HA.out _).mono ?_
    rintro e w1 ⟨rfl, hb⟩
    go_wp2
    go_ret
    exact ⟨rfl, hb⟩
end Go.Proofs.Ytkfbljbhdjnggaa
