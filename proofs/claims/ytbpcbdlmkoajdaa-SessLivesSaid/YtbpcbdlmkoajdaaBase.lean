/- Facts that each law's frame of this seat asks: the program's knob, its types' sizes, and what a word of each kind may be. -/
import Derived.Test.YtbpcbdlmkoajdaaRows
import Derived.ProofKit
import Derived.OpenShut
namespace Go.Proofs.Ytbpcbdlmkoajdaa
open Go Go.RowKit Go.ChangeShapes Go.WideShapes
theorem own : ownKnob Try.prog.godebug = none := by kernel_rfl
theorem laidOut : laidOutB Try.prog = true := by kernel_rfl
theorem wf_u64 {v : Int} (h : (Lit.int .u64 v).wf = true) : ∃ n : Nat, v = n ∧ (n : Int) < 18446744073709551616 := by
  have := bounds_u64 h
  obtain ⟨n, rfl⟩ := Int.eq_ofNat_of_zero_le (show 0 ≤ v by omega)
  exact ⟨n, rfl, by omega⟩
theorem wf_i64 {v : Int} (h : (Lit.int .i64 v).wf = true) : -9223372036854775808 ≤ v ∧ v ≤ 9223372036854775807 := by
  have := bounds_i64 h
  omega
end Go.Proofs.Ytbpcbdlmkoajdaa
