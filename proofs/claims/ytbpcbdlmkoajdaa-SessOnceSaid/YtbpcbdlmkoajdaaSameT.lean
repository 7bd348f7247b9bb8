/- Lists of texts that are alike (commonsbook's SameTexts). -/
import Derived.Test.YtbpcbdlmkoajdaaRow
import Derived.BigQuiet
namespace Go.Proofs.Ytbpcbdlmkoajdaa
open Go Go.RowKit
set_option maxRecDepth 100000
set_option maxHeartbeats 1000000

theorem sameTexts_yes (u v : Value) (l : List (List UInt8)) (w : World) (hu : Texts w u l) (hv : Texts w v l) :
    Calls Try.prog 12 #[u, v] w fun e w' => e = .returned (.bool true) ∧ ∃ n, w' = w.drewN n := by
  obtain ⟨A, ca, rfl, ha1, ha2, ha3⟩ := hu.at_
  obtain ⟨B, cb, rfl, hb1, hb2, hb3⟩ := hv.at_
  have hlen : (l.length : Int) ≤ 9223372036854775807 := by omega
  have HA := Lib.hid ha3
  have HB := Lib.hid hb3
  clear ha3 hb3 hu hv
  go_enter Try.func12, Try.ntmps12
  go_wp2
  go_loopw [5] (fun i wr => ∃ k : Nat, k ≤ l.length ∧ i = .int .i64 k ∧ ∃ n, wr = w.drewN n) (fun i _ => l.length - (intOf i).toNat)
  case atStart => exact ⟨0, by omega, rfl, 0, rfl⟩
  case round =>
    obtain ⟨k, hk, rfl, n, rfl⟩ := hrel
    by_cases hlt : k < l.length
    · obtain ⟨b, o, rfl, _, hcb⟩ := HA.out k hlt
      obtain ⟨b', o', rfl, _, hcb'⟩ := HB.out k hlt
      go_wp2
      go_quiet (fail)
      go_wp2
      go_roundw
      case rel => exact ⟨k + 1, by omega, by go_num, _, rfl⟩
      case measure => simp [intOf]; omega
    · go_wp2
      go_ret
      exact ⟨rfl, n, rfl⟩
end Go.Proofs.Ytbpcbdlmkoajdaa
