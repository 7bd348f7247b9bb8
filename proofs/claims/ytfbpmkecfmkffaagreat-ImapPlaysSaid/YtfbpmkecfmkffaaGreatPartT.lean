/- commonsref1's Map.Get; chapter 7's same. -/
import Derived.Test.YtfbpmkecfmkffaaGreatPartR
import Derived.Test.YtfbpmkecfmkffaaGreatGA
import Derived.Test.YtfbpmkecfmkffaaGreatImapI
import Derived.Test.YtfbpmkecfmkffaaGreatGB
import Derived.BigQuiet
namespace Go.Proofs.YtfbpmkecfmkffaaGreat
open Go Go.RowKit SpanP PartP ImapP
set_option maxRecDepth 100000
set_option maxHeartbeats 1000000
set_option linter.unusedSimpArgs false

theorem refget_any (x : Value) (l : List Pt) (c : Int) (w : World) (h : Parts w x l) (hok : ∀ x ∈ l, Ok x.1) :
    Calls Tryz.prog 19 #[x, .int .i64 c] w fun e w' => e = .returned (.tuple #[.int .i64 ((blockV l c).getD 0), .bool (blockV l c).isSome]) ∧ w' = w := by
  obtain ⟨A, ca, rfl, ha1, ha2, ha3⟩ := Parts.read h
  have HA := Lib.hid ha3
  have HOK := Lib.hid hok
  have hcl : (l.length : Int) ≤ 9223372036854775807 := by omega
  clear ha3 h hok
  go_enter Tryz.func19, Tryz.ntmps19
  go_wp2
  go_loopw [6] (fun i wr => wr = w ∧ ∃ k : Nat, k ≤ l.length ∧ i = .int .i64 k ∧ Hid (∀ x ∈ l.take k, ¬ Has x.1 c)) (fun i _ => l.length - (intOf i).toNat)
  case atStart => exact ⟨rfl, 0, by omega, rfl, Lib.hid (by simp)⟩
  case round =>
    obtain ⟨rfl, k, hk, rfl, hI⟩ := hrel
    by_cases hlt : k < l.length
    · obtain ⟨b, o, rfl, hb, c0, c1, c2⟩ := HA.out k hlt
      have HLT := Lib.hid hlt
      generalize hy : l[k] = y at c0 c1 c2
      have HY : Hid (∀ h : k < l.length, y = l[k]) := Lib.hid fun _ => hy.symm
      obtain ⟨⟨y0, y1⟩, yv⟩ := y
      simp only at c0 c1 c2
      have hoy : Ok (y0, y1) := HOK.out _ (List.mem_of_getElem hy)
      clear hy hb
      by_cases hh : Has (y0, y1) c
      · have h1 : y0 ≤ c := hh.2.1
        have h2 : c < y1 := hh.2.2
        have HRS : Hid (blockV l c = some yv) := Lib.hid (by
          rw [blockV_at HLT.out hI.out (by rw [← HY.out HLT.out]; exact hh), ← HY.out HLT.out])
        clear hh
        go_wp2
        go_ret2
        exact ⟨by rw [HRS.out]; rfl, rfl⟩
      · have HH : Hid (∀ x ∈ l.take (k + 1), ¬ Has x.1 c) := Lib.hid fun x hx => by
          rw [List.take_succ_eq_append_getElem HLT.out] at hx
          rcases List.mem_append.1 hx with hx | hx
          · exact hI.out x hx
          · rw [List.mem_singleton.1 hx, ← HY.out HLT.out]; exact hh
        by_cases h1 : y0 ≤ c
        · have h2 : ¬ c < y1 := fun h2 => hh ⟨hoy, h1, h2⟩
          clear hh
          go_wp2
          go_roundw
          case rel => exact ⟨trivial, k + 1, by omega, by go_num, HH⟩
          case measure => simp [intOf]; omega
        · clear hh
          go_wp2
          go_roundw
          case rel => exact ⟨trivial, k + 1, by omega, by go_num, HH⟩
          case measure => simp [intOf]; omega
    · obtain rfl : k = l.length := by omega
      clear hk hlt
      have HRS : Hid (blockV l c = none) := Lib.hid (by
        have := hI.out
        rw [List.take_length] at this
        exact blockV_off this)
      go_wp2
      go_ret2
      exact ⟨by rw [HRS.out]; rfl, rfl⟩
theorem same7_any (u v : Value) (l : List Pt) (w : World) (hu : PtsI w u l) (hv : Parts w v l) :
    Calls Tryz.prog 20 #[u, v] w fun e w' => e = .returned (.bool true) ∧ ∃ n, w' = w.drewN n := by
  obtain ⟨A, ca, rfl, ha1, ha2, ha3⟩ := PtsI.read hu
  obtain ⟨B, cb, rfl, hb1, hb2, hb3⟩ := Parts.read hv
  have hlen : (l.length : Int) ≤ 9223372036854775807 := by omega
  have HA := Lib.hid ha3
  have HB := Lib.hid hb3
  clear ha3 hb3 hu hv
  go_enter Tryz.func20, Tryz.ntmps20
  go_wp2
  go_loopw [5] (fun i wr => ∃ k : Nat, k ≤ l.length ∧ i = .int .i64 k ∧ ∃ n, wr = w.drewN n) (fun i _ => l.length - (intOf i).toNat)
  case atStart => exact ⟨0, by omega, rfl, 0, rfl⟩
  case round =>
    obtain ⟨k, hk, rfl, n, rfl⟩ := hrel
    by_cases hlt : k < l.length
    · obtain ⟨b, o, rfl, _, hcb, hcc, hcd⟩ := HA.out k hlt
      obtain ⟨b', o', rfl, _, hcb', hcc', hcd'⟩ := HB.out k hlt
      generalize l[k] = y at hcb hcb' hcc hcc' hcd hcd'
      obtain ⟨⟨p, q⟩, r⟩ := y
      simp only at hcb hcb' hcc hcc' hcd hcd'
      go_wp2
      go_quiet (fail)
      go_wp2
      go_roundw
      case rel => exact ⟨k + 1, by omega, by go_num, _, rfl⟩
      case measure => simp [intOf]; omega
    · go_wp2
      go_ret
      exact ⟨rfl, n, rfl⟩
end Go.Proofs.YtfbpmkecfmkffaaGreat
