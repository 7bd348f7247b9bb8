/- Package block: Pad. -/
import Derived.Test.YtmlhncheodpbpaaGreatBlkB
import Derived.Test.YtmlhncheodpbpaaGreatDskH
namespace Go.Proofs.YtmlhncheodpbpaaGreat
open Go Go.RowKit
set_option maxRecDepth 100000
set_option maxHeartbeats 1000000
set_option linter.unusedSimpArgs false

theorem bpad_any (s : List UInt8) (hs : s.length ≤ 1000000) (w : World) : Calls Tryz.prog 12 #[.string (str s)] w fun e w' => e = .returned (.tuple #[.string (str (padF s).1), .int .i64 ((padF s).2 : Int)]) ∧ Below w.heap.size w w' := by
  have hz := str_size s
  by_cases h : 96 < s.length
  · rw [show padF s = ([], 2) by unfold padF; rw [if_pos h]]
    have d1 : decide (96 < ((str s).size : Int)) = true := decide_eq_true (by omega)
    clear h hz
    go_enter Tryz.func12, Tryz.ntmps12
    go_wp2
    go_ret2
    exact ⟨rfl, Below.refl _ _⟩
  · rw [show padF s = (s ++ List.replicate (96 - s.length) 0, 0) by unfold padF; rw [if_neg h]]
    have d1 : decide (96 < ((str s).size : Int)) = false := decide_eq_false (by omega)
    have hss : (str s).size ≤ 96 := by omega
    have hg : Sits (w.alloc (.cells (byteCells (List.replicate 96 0)) 65)) w.heap.size 65 (byteCells (List.replicate 96 0)) := Sits.fresh w _ _
    have hcp := run_copy_text (P := Tryz.prog) (w.alloc (.cells (byteCells (List.replicate 96 0)) 65)) 50 9 3 5 w.heap.size 0 96 96 (List.replicate 96 0) 65 (str s) Tryz.underlying50 (by kernel_rfl) hg (by omega) (by simp; omega)
    rw [str_list, List.take_zero, List.nil_append, Nat.zero_add, List.drop_replicate, hz] at hcp
    have hrow : Sits ((w.alloc (.cells (byteCells (List.replicate 96 0)) 65)).setRow w.heap.size (byteCells (s ++ List.replicate (96 - s.length) 0))) w.heap.size 65 (byteCells (s ++ List.replicate (96 - s.length) 0)) := hg.row
    have hcv := run_text_of_row (P := Tryz.prog) _ 50 9 5 65 w.heap.size 96 96 (s ++ List.replicate (96 - s.length) 0) Tryz.underlying50 Tryz.underlying5 Tryz.underlying9 hrow (by rw [List.length_append, List.length_replicate]; omega)
    have hzc : Tryz.zeroCells65 = byteCells (List.replicate 96 0) := by kernel_rfl
    rw [← hzc] at hcp hcv
    have HB : Hid (Below w.heap.size w ((w.alloc (.cells Tryz.zeroCells65 65)).setRow w.heap.size (byteCells (s ++ List.replicate (96 - s.length) 0)))) := Lib.hid (Below.row ((Below.refl _ w).alloc (Nat.le_refl _) _) (Nat.le_refl _) _)
    generalize hrr : (w.alloc (.cells Tryz.zeroCells65 65)).setRow w.heap.size (byteCells (s ++ List.replicate (96 - s.length) 0)) = W at *
    clear hz h hg hrow hzc hrr hs
    go_enter Tryz.func12, Tryz.ntmps12
    go_wp2
    go_ret2
    exact ⟨rfl, HB.out⟩
end Go.Proofs.YtmlhncheodpbpaaGreat
