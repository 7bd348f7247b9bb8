/- Package wlog: of a nil and of a zero log. -/
import Derived.Test.YtlaclbcckadmkaaGreatWlH
namespace Go.Proofs.YtlaclbcckadmkaaGreat
open Go Go.RowKit DskP WlP SupP
set_option maxRecDepth 100000
set_option maxHeartbeats 1000000
set_option linter.unusedSimpArgs false

/-- A nil log, or a zero one. -/
def NoLog (v : Value) (w : World) : Prop := v = .pointer none ∨ ∃ p, v = .pointer (some ⟨p, 0, none⟩) ∧ p < w.heap.size ∧ w.cell? ⟨p, 0, none⟩ = some (.pointer none)
theorem NoLog.below {v : Value} {w w' : World} (h : NoLog v w) (hb : Below w.heap.size w w') : NoLog v w' := by
  rcases h with h | ⟨p, h1, h2, h3⟩
  · exact .inl h
  · exact .inr ⟨p, h1, Nat.lt_of_lt_of_le h2 hb.size, (hb.cell (p := ⟨p, 0, none⟩) h2).trans h3⟩
theorem no_ready {v : Value} {w : World} (h : NoLog v w) : Calls Tryz.prog 39 #[v] w fun e w' => e = .returned (.int .i64 1) ∧ w = w' := by
  rcases h with rfl | ⟨p, rfl, -, h⟩
  · exact lgready_nil w
  · exact lgready_zero p w h
theorem no_add {v : Value} {w : World} (h : NoLog v w) (A : Option Addr) (n cap : Nat) : Calls Tryz.prog 8 #[v, .slice A n cap] w fun e w' => e = .returned (.tuple #[.int .u64 0, .int .i64 1]) ∧ w = w' := by
  have HRD := Lib.hid (no_ready h)
  clear h
  go_enter Tryz.func8, Tryz.ntmps8
  go_wp2_with fail
  refine HRD.out.mono ?_
  rintro e w1 ⟨rfl, rfl⟩
  go_wp2
  go_ret2
  exact ⟨rfl, rfl⟩
theorem no_write {v : Value} {w : World} (h : NoLog v w) : Calls Tryz.prog 10 #[v] w fun e w' => e = .returned (.tuple #[.int .i64 0, .int .i64 1]) ∧ w = w' := by
  have HRD := Lib.hid (no_ready h)
  clear h
  go_enter Tryz.func10, Tryz.ntmps10
  go_wp2_with fail
  refine HRD.out.mono ?_
  rintro e w1 ⟨rfl, rfl⟩
  go_wp2
  go_ret2
  exact ⟨rfl, rfl⟩
theorem no_sync {v : Value} {w : World} (h : NoLog v w) : Calls Tryz.prog 12 #[v] w fun e w' => e = .returned (.int .i64 1) ∧ w = w' := by
  have HRD := Lib.hid (no_write h)
  clear h
  go_enter Tryz.func12, Tryz.ntmps12
  go_wp2_with fail
  refine HRD.out.mono ?_
  rintro e w1 ⟨rfl, rfl⟩
  go_wp2
  go_ret
  exact ⟨rfl, rfl⟩
theorem no_free {v : Value} {w : World} (h : NoLog v w) (b : Int) : Calls Tryz.prog 13 #[v, .int .u64 b] w fun e w' => e = .returned (.int .i64 1) ∧ w = w' := by
  have HRD := Lib.hid (no_ready h)
  clear h
  go_enter Tryz.func13, Tryz.ntmps13
  go_wp2_with fail
  refine HRD.out.mono ?_
  rintro e w1 ⟨rfl, rfl⟩
  go_wp2
  go_ret
  exact ⟨rfl, rfl⟩
theorem no_fits {v : Value} {w : World} (h : NoLog v w) (n : Int) : Calls Tryz.prog 14 #[v, .int .i64 n] w fun e w' => e = .returned (.bool false) ∧ Below w.heap.size w w' := by
  have HRD : Hid (∀ j, Calls Tryz.prog 39 #[v] (w.drewN j) fun e w' => e = .returned (.int .i64 1) ∧ w' = w.drewN j) := Lib.hid fun j => (no_ready (h.below (below_drewN (Below.refl _ _) j))).mono fun _ _ ⟨a, b⟩ => ⟨a, b.symm⟩
  clear h
  go_enter Tryz.func14, Tryz.ntmps14
  go_wp2_with fail
  go_quiet (exact Calls.quiet_of_same (HRD.out _))
  go_wp2
  go_ret
  exact ⟨rfl, below_drewN (Below.refl _ _) _⟩
end Go.Proofs.YtlaclbcckadmkaaGreat
