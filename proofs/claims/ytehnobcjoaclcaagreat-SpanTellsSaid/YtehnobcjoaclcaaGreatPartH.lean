/- commonsref1: Blocks: the document's own. -/
import Derived.Test.YtehnobcjoaclcaaGreatPartG
import Derived.Test.YtehnobcjoaclcaaGreatPartM
import Derived.Test.YtehnobcjoaclcaaGreatSpanG
namespace Go.Proofs.YtehnobcjoaclcaaGreat
open Go Go.RowKit SpanP PartP
set_option maxRecDepth 100000
set_option maxHeartbeats 1000000
set_option linter.unusedSimpArgs false

theorem refblocks_any (most : Int) (h0 : 0 ≤ most) (h3 : most ≤ 3000) (v : Value) (l : List S) (w : World) (h : Spans w v l) (hn : SpanP.Norm l) (hlim : Lim l) :
    Calls Tryz.prog 25 #[.int .i64 most, v] w fun e w' => e = .returned (.int .i64 (if count l ≤ most then count l else most + 1)) ∧ Below w.heap.size w w' := by
  obtain ⟨A, ca, rfl, ha1, ha2, ha3⟩ := Spans.read h
  have HA := Lib.hid ha3
  have HN := Lib.hid hn
  have HLM := Lib.hid hlim
  have HM := Lib.hid (And.intro h0 h3)
  have hcl : (l.length : Int) ≤ 9223372036854775807 := by omega
  obtain ⟨res, hres⟩ : ∃ res, res = if count l ≤ most then count l else most + 1 := ⟨_, rfl⟩
  have HRES := Lib.hid hres
  rw [← hres]
  clear ha3 h hn hlim h0 h3 hres
  go_enter Tryz.func25, Tryz.ntmps25
  go_wp2
  go_loopw [5, 6] (fun q i wr => ∃ (k : Nat) (r : Int), k ≤ l.length ∧ i = .int .i64 k ∧ q = .int .i64 r ∧ r = count (l.take k) ∧ r ≤ most ∧ ∃ nq, wr = w.drewN nq) (fun _ i _ => l.length - (intOf i).toNat)
  case atStart => exact ⟨0, 0, by omega, rfl, rfl, rfl, HM.out.1, 0, rfl⟩
  case round =>
    obtain ⟨k, r, hk, rfl, rfl, hr, hrm, n0, rfl⟩ := hrel
    by_cases hlt : k < l.length
    · obtain ⟨b, o, rfl, hb, c0, c1⟩ := HA.out k hlt
      have hst := count_split l (k + 1)
      have hdr := count_nonneg (norm_drop HN.out (k + 1))
      have hnn := count_nonneg (norm_take HN.out k)
      have hnx : count (l.take (k + 1)) = r + (l[k].2 - l[k].1) := by
        rw [List.take_succ_eq_append_getElem hlt, count_append, ← hr]
        simp [count]
      have hok := HN.out.ok l[k] (List.getElem_mem hlt)
      have hli := HLM.out l[k] (List.getElem_mem hlt)
      obtain ⟨s, hs⟩ : ∃ s, s = l[k] := ⟨_, rfl⟩
      rw [← hs] at c0 c1 hnx hok hli
      unfold Ok at hok
      unfold top at hli
      have e1 : IntKind.i64.wrap (s.2 - s.1) = s.2 - s.1 := by rw [IntWalk.i64_in _ (by omega)]
      have e2 : IntKind.i64.wrap (most - r) = most - r := by have := HM.out; rw [IntWalk.i64_in _ (by omega)]
      by_cases hbig : s.2 - s.1 > most - r
      · have d1 : decide (s.2 - s.1 > most - r) = true := decide_eq_true hbig
        have e3 : IntKind.i64.wrap (most + 1) = most + 1 := by have := HM.out; rw [IntWalk.i64_in _ (by omega)]
        have HR : Hid (res = most + 1) := Lib.hid (by rw [HRES.out, if_neg (by omega)])
        clear hst hdr hnn hnx hok hli hs hr hrm hb hbig
        go_wp2
        go_quiet (fail)
        go_wp2
        go_ret
        exact ⟨by rw [HR.out]; rfl, below_drewN (Below.refl _ _) _⟩
      · have d1 : decide (s.2 - s.1 > most - r) = false := decide_eq_false hbig
        have e4 : wrap64 (wrap64 (r + s.2) - s.1) = r + (s.2 - s.1) := by
          have := HM.out
          unfold wrap64
          omega
        have HNX : Hid (r + (s.2 - s.1) = count (l.take (k + 1)) ∧ r + (s.2 - s.1) ≤ most) := Lib.hid ⟨hnx.symm, by omega⟩
        generalize r + (s.2 - s.1) = r2 at e4 HNX
        clear hst hdr hnn hnx hok hli hs hr hrm hb hbig
        go_wp2
        go_quiet (fail)
        go_wp2
        go_quiet (fail)
        go_wp2
        go_roundw
        case rel => exact ⟨k + 1, r2, by omega, by go_num, by first | rfl | rw [e4], HNX.out.1, HNX.out.2, _, by first | rfl | (simp only [World.drewN, Nat.add_assoc]; rfl)⟩
        case measure => simp [intOf]; omega
    · obtain rfl : k = l.length := by omega
      rw [List.take_length] at hr
      have HR : Hid (res = r) := Lib.hid (by rw [HRES.out, ← hr, if_pos hrm])
      clear hr hrm
      go_wp2
      go_ret
      exact ⟨by rw [HR.out]; rfl, below_drewN (Below.refl _ _) n0⟩
end Go.Proofs.YtehnobcjoaclcaaGreat
