/- Package rec: Sectors, Most. -/
import Derived.Test.YtjjjflmpindncaaRecP
import Derived.Test.YtjjjflmpindncaaBase
import Derived.Test.YtjjjflmpindncaaKit
import Derived.Test.YtjjjflmpindncaaMinMax
import Derived.IntWalk
namespace Go.Proofs.Ytjjjflmpindncaa
open Go Go.RowKit
set_option maxRecDepth 100000
set_option maxHeartbeats 1000000
set_option linter.unusedSimpArgs false

theorem rsectors_any (k : Int) (w : World) : Calls Try.prog 11 #[.int .i64 k] w fun e w' => e = .returned (.int .i64 (secN k.toNat : Int)) ∧ w = w' := by
  by_cases h1 : k < 1
  · have d1 : decide (k < 1) = true := decide_eq_true h1
    have hs : secN k.toNat = 0 := by unfold secN; rw [if_pos (by omega)]
    rw [hs]
    go_enter Try.func11, Try.ntmps11
    go_wp2
    go_ret
    exact ⟨rfl, rfl⟩
  · have d1 : decide (k < 1) = false := decide_eq_false h1
    by_cases h2 : 60 < k
    · have d2 : decide (60 < k) = true := decide_eq_true h2
      have hs : secN k.toNat = 0 := by unfold secN; rw [if_pos (by omega)]
      rw [hs]
      go_enter Try.func11, Try.ntmps11
      go_wp2
      go_ret
      exact ⟨rfl, rfl⟩
    · have d2 : decide (60 < k) = false := decide_eq_false h2
      obtain ⟨n, rfl⟩ := Int.eq_ofNat_of_zero_le (show 0 ≤ k by omega)
      have e1 : IntKind.i64.wrap ((n : Int) * 108) = (n : Int) * 108 := IntWalk.i64_in _ (by omega)
      have e2 : IntKind.i64.wrap ((n : Int) * 108 + 42) = (n : Int) * 108 + 42 := IntWalk.i64_in _ (by omega)
      have e3 : IntKind.i64.wrap ((n : Int) * 108 + 42 - 1) = (n : Int) * 108 + 42 - 1 := IntWalk.i64_in _ (by omega)
      have e4 : ((n : Int) * 108 + 42 - 1).tdiv 42 = ((secN n : Nat) : Int) := by
        rw [Int.tdiv_eq_ediv_of_nonneg (by omega)]
        unfold secN
        rw [if_neg (by omega)]
        omega
      have e5 : IntKind.i64.wrap ((secN n : Nat) : Int) = ((secN n : Nat) : Int) := IntWalk.i64_in _ (by unfold secN; split <;> omega)
      rw [Int.toNat_natCast]
      generalize secN n = q at e4 e5
      go_enter Try.func11, Try.ntmps11
      go_wp2
      go_ret
      exact ⟨rfl, rfl⟩
/-- The most images that a transaction may have. -/
def mostN (log : Int) : Nat := if log < 1 ∨ 100000 < log then 0 else min ((log.toNat - 1) / 2 * 42 / 108) 60
theorem rmost_any (k : Int) (w : World) : Calls Try.prog 13 #[.int .i64 k] w fun e w' => e = .returned (.int .i64 (mostN k : Int)) ∧ w = w' := by
  by_cases h1 : k < 1
  · have d1 : decide (k < 1) = true := decide_eq_true h1
    have hs : mostN k = 0 := by unfold mostN; rw [if_pos (by omega)]
    rw [hs]
    go_enter Try.func13, Try.ntmps13
    go_wp2
    go_ret
    exact ⟨rfl, rfl⟩
  · have d1 : decide (k < 1) = false := decide_eq_false h1
    by_cases h2 : 100000 < k
    · have d2 : decide (100000 < k) = true := decide_eq_true h2
      have hs : mostN k = 0 := by unfold mostN; rw [if_pos (by omega)]
      rw [hs]
      go_enter Try.func13, Try.ntmps13
      go_wp2
      go_ret
      exact ⟨rfl, rfl⟩
    · have d2 : decide (100000 < k) = false := decide_eq_false h2
      obtain ⟨a, ha⟩ : ∃ a : Nat, a = (k.toNat - 1) / 2 := ⟨_, rfl⟩
      obtain ⟨b, hb⟩ : ∃ b : Nat, b = a * 42 / 108 := ⟨_, rfl⟩
      obtain ⟨c, hc⟩ : ∃ c : Nat, c = min b 60 := ⟨_, rfl⟩
      have hm : mostN k = c := by unfold mostN; rw [if_neg (by omega), ← ha, ← hb, ← hc]
      rw [hm]
      have e1 : IntKind.i64.wrap (k - 1) = k - 1 := IntWalk.i64_in _ (by omega)
      have e2 : (k - 1).tdiv 2 = (a : Int) := by rw [Int.tdiv_eq_ediv_of_nonneg (by omega)]; omega
      have e3 : IntKind.i64.wrap (a : Int) = (a : Int) := IntWalk.i64_in _ (by omega)
      have e4 : IntKind.i64.wrap ((a : Int) * 42) = (a : Int) * 42 := IntWalk.i64_in _ (by omega)
      have e5 : ((a : Int) * 42).tdiv 108 = (b : Int) := by rw [Int.tdiv_eq_ediv_of_nonneg (by omega)]; omega
      have e6 : IntKind.i64.wrap (b : Int) = (b : Int) := IntWalk.i64_in _ (by omega)
      have e7 : (if (60 : Int) < (b : Int) then (60 : Int) else (b : Int)) = (c : Int) := by split <;> omega
      have H7 := Lib.hid (show min (b : Int) 60 = (c : Int) by omega)
      clear hm ha hb hc
      go_enter Try.func13, Try.ntmps13
      go_wp2
      go_ret
      exact ⟨by rw [← H7.out]; rfl, rfl⟩
end Go.Proofs.Ytjjjflmpindncaa
