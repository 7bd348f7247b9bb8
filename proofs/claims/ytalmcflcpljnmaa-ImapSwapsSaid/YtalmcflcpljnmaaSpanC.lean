/- Lists of spans: two are put behind one another (slices.Concat), held against one another (slices.Equal, commonsbook's SameSpans), and what they have in common (common). -/
import Derived.Test.YtalmcflcpljnmaaSpanR
import Derived.Lib.AppendZeros
namespace Go.Proofs.Ytalmcflcpljnmaa
open Go Go.RowKit SpanP
set_option maxRecDepth 100000
set_option maxHeartbeats 1000000
set_option linter.unusedSimpArgs false

theorem sameS_yes (u v : Value) (l : List S) (w : World) (hu : Spans w u l) (hv : Spans w v l) :
    Calls Try.prog 26 #[u, v] w fun e w' => e = .returned (.bool true) ∧ ∃ n, w' = w.drewN n := by
  obtain ⟨A, ca, rfl, ha1, ha2, ha3⟩ := hu.read
  obtain ⟨B, cb, rfl, hb1, hb2, hb3⟩ := hv.read
  have hlen : (l.length : Int) ≤ 9223372036854775807 := by omega
  have HA := Lib.hid ha3
  have HB := Lib.hid hb3
  clear ha3 hb3 hu hv
  go_enter Try.func26, Try.ntmps26
  go_wp2
  go_loopw [5] (fun i wr => ∃ k : Nat, k ≤ l.length ∧ i = .int .i64 k ∧ ∃ n, wr = w.drewN n) (fun i _ => l.length - (intOf i).toNat)
  case atStart => exact ⟨0, by omega, rfl, 0, rfl⟩
  case round =>
    obtain ⟨k, hk, rfl, n, rfl⟩ := hrel
    by_cases hlt : k < l.length
    · obtain ⟨b, o, rfl, _, hcb, hcc⟩ := HA.out k hlt
      obtain ⟨b', o', rfl, _, hcb', hcc'⟩ := HB.out k hlt
      generalize l[k].1 = p at hcb hcb'
      generalize l[k].2 = q at hcc hcc'
      go_wp2
      go_quiet (fail)
      go_wp2
      go_roundw
      case rel => exact ⟨k + 1, by omega, by go_num, _, rfl⟩
      case measure => simp [intOf]; omega
    · go_wp2
      go_ret
      exact ⟨rfl, n, rfl⟩
end Go.Proofs.Ytalmcflcpljnmaa
