/- commonsbook's Room, asked for one size. -/
import Derived.Test.YtkfbljbhdjnggaaRow
namespace Go.Proofs.Ytkfbljbhdjnggaa
open Go Go.RowKit
set_option maxRecDepth 100000
set_option maxHeartbeats 1000000
set_option linter.unusedSimpArgs false

theorem room_im (r : Int) (x : Nat) (g : Nat) (w : World) (hr0 : -1 ≤ r) (hr1 : r ≤ 100000) (hx : (x : Int) ≤ 9223372036854775807) (hg : Sits w g 3 #[.int .i64 x]) :
    Calls Try.prog 30 #[.int .i64 r, .slice (some ⟨g, 0, none⟩) 1 1] w fun e w' => (∃ q : Int, e = .returned (.int .i64 q) ∧ -1 ≤ q ∧ q ≤ r ∧ (0 ≤ q → (x : Int) ≤ r)) ∧ w = w' := by
  have c0 : w.cell? ⟨g, 0, none⟩ = some (.int .i64 x) := hg.cell 0
  clear hg
  go_enter Try.func30, Try.ntmps30
  go_wp2
  go_loopw [0, 5] (fun v i wr => wr = w ∧ ((i = .int .i64 0 ∧ v = .int .i64 r) ∨ (i = .int .i64 1 ∧ v = .int .i64 (r - x) ∧ 0 ≤ r - x))) (fun _ i _ => 1 - (intOf i).toNat)
  case atStart => exact ⟨rfl, .inl ⟨rfl, rfl⟩⟩
  case round =>
    obtain ⟨rfl, hrel⟩ := hrel
    rcases hrel with ⟨rfl, rfl⟩ | ⟨rfl, rfl, hq⟩
    · by_cases h1 : r < 0
      · have d1 : decide (r < 0) = true := decide_eq_true h1
        go_wp2
        go_ret
        exact ⟨⟨-1, rfl, by omega, by omega, by omega⟩, rfl⟩
      · have d1 : decide (r < 0) = false := decide_eq_false h1
        by_cases h2 : r < (x : Int)
        · have d2 : decide (r < (x : Int)) = true := decide_eq_true h2
          go_wp2
          go_ret
          exact ⟨⟨-1, rfl, by omega, by omega, by omega⟩, rfl⟩
        · have d2 : decide (r < (x : Int)) = false := decide_eq_false h2
          have e1 : IntKind.i64.wrap (r - (x : Int)) = r - (x : Int) := IntWalk.i64_in _ (by omega)
          go_wp2
          go_roundw
          case rel => exact ⟨trivial, .inr ⟨rfl, rfl, by omega⟩⟩
          case measure => simp [intOf]
    · go_wp2
      go_ret
      exact ⟨⟨_, rfl, by omega, by omega, by omega⟩, rfl⟩
end Go.Proofs.Ytkfbljbhdjnggaa
