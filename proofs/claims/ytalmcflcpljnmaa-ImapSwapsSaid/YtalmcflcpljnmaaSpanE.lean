/- Package span: what is outside of a list (outside), how many blocks it has (total), and whether two lists are the same (slices.Equal). -/
import Derived.Test.YtalmcflcpljnmaaSpanM
namespace Go.Proofs.Ytalmcflcpljnmaa
open Go Go.RowKit SpanP
set_option maxRecDepth 100000
set_option maxHeartbeats 1000000
set_option linter.unusedSimpArgs false

theorem gaps_step (f : Int) (l : List S) (k : Nat) (h : k < l.length) : gaps f (l.drop k) = (f, l[k].1) :: gaps l[k].2 (l.drop (k + 1)) := by
  rw [List.drop_eq_getElem_cons h]; rfl
theorem count_take {l : List S} (hn : SpanP.Norm l) (hl : Lim l) (k : Nat) : 0 ≤ count (l.take k) ∧ count (l.take k) ≤ 9223372036854775807 := by
  have hn' : SpanP.Norm (l.take k) := by
    have := hn
    rw [← List.take_append_drop k l] at this
    exact this.front
  have := count_bound (l := l.take k) 0 hn' (fun s hs => hl s (List.mem_of_mem_take hs)) hn'.nonneg (by unfold top; omega)
  unfold top at this
  omega
theorem equalS_any (u v : Value) (l m : List S) (w : World) (hu : Spans w u l) (hv : Spans w v m) :
    Calls Try.prog 37 #[u, v] w fun e w' => e = .returned (.bool (decide (l = m))) ∧ ∃ n, w' = w.drewN n := by
  obtain ⟨A, ca, rfl, ha1, ha2, ha3⟩ := hu.read
  obtain ⟨B, cb, rfl, hb1, hb2, hb3⟩ := hv.read
  have hlen : (l.length : Int) ≤ 9223372036854775807 := by omega
  by_cases hlm : l.length = m.length
  · have HLM := Lib.hid hlm
    have HA := Lib.hid ha3
    have HB := Lib.hid hb3
    rw [← hlm] at hb1 ⊢
    clear ha3 hb3 hu hv hlm
    go_enter Try.func37, Try.ntmps37
    go_wp2
    go_loopw [13] (fun i wr => ∃ k : Nat, k ≤ l.length ∧ i = .int .i64 k ∧ l.take k = m.take k ∧ ∃ n, wr = w.drewN n) (fun i _ => l.length - (intOf i).toNat)
    case atStart => exact ⟨0, by omega, rfl, by simp, 0, rfl⟩
    case round =>
      obtain ⟨k, hk, rfl, htk, n, rfl⟩ := hrel
      have HTK := Lib.hid htk
      clear htk
      by_cases hlt : k < l.length
      · obtain ⟨b, o, rfl, _, hcb, hcc⟩ := HA.out k hlt
        obtain ⟨b', o', rfl, _, hcb', hcc'⟩ := HB.out k (by have := HLM.out; omega)
        have HK : Hid (l[k] = m[k]'(by have := HLM.out; omega) ↔ (l[k].1 = (m[k]'(by have := HLM.out; omega)).1 ∧ l[k].2 = (m[k]'(by have := HLM.out; omega)).2)) := Lib.hid Prod.ext_iff
        have hne : l[k] ≠ m[k]'(by have := HLM.out; omega) → l ≠ m := fun h1 h2 => h1 (by subst h2; rfl)
        have hnx : l[k] = m[k]'(by have := HLM.out; omega) → l.take (k + 1) = m.take (k + 1) := fun h1 => by
          rw [List.take_succ_eq_append_getElem hlt, List.take_succ_eq_append_getElem (by have := HLM.out; omega), HTK.out, h1]
        have HNE := Lib.hid hne
        have HNX := Lib.hid hnx
        clear hne hnx
        generalize hp : l[k].1 = p at hcb HK
        generalize hq : l[k].2 = q at hcc HK
        generalize hp' : (m[k]'(by have := HLM.out; omega)).1 = p' at hcb' HK
        generalize hq' : (m[k]'(by have := HLM.out; omega)).2 = q' at hcc' HK
        clear hp hq hp' hq'
        by_cases e1 : p = p'
        · by_cases e2 : q = q'
          · have HN := Lib.hid (HNX.out (HK.out.2 ⟨e1, e2⟩))
            subst e1 e2
            go_wp2
            go_quiet (fail)
            go_wp2
            go_roundw
            case rel => exact ⟨k + 1, by omega, by go_num, HN.out, _, rfl⟩
            case measure => simp [intOf]; omega
          · have HN := Lib.hid (HNE.out (fun e => e2 (HK.out.1 e).2))
            subst e1
            have d2 : (q == q') = false := beq_eq_false_iff_ne.2 e2
            go_wp2
            go_quiet (fail)
            go_wp2
            go_ret
            exact ⟨by rw [decide_eq_false HN.out]; rfl, _, by simp only [World.drewN, Nat.add_assoc]; rfl⟩
        · have HN := Lib.hid (HNE.out (fun e => e1 (HK.out.1 e).1))
          have d1 : (p == p') = false := beq_eq_false_iff_ne.2 e1
          go_wp2
          go_quiet (fail)
          go_wp2
          go_ret
          exact ⟨by rw [decide_eq_false HN.out]; rfl, _, by simp only [World.drewN, Nat.add_assoc]; rfl⟩
      · obtain rfl : k = l.length := by omega
        have HN : Hid (l = m) := Lib.hid (by
          have := HTK.out
          rwa [List.take_length, HLM.out, List.take_length] at this)
        go_wp2
        go_ret
        exact ⟨by rw [decide_eq_true HN.out]; rfl, n, rfl⟩
  · have hne : l ≠ m := fun e => hlm (by rw [e])
    have HN := Lib.hid hne
    have d1 : ((l.length : Int) == (m.length : Int)) = false := beq_eq_false_iff_ne.2 (by omega)
    have d2 : (l.length == m.length) = false := beq_eq_false_iff_ne.2 hlm
    clear hne hu hv
    go_enter Try.func37, Try.ntmps37
    go_wp2
    go_ret
    exact ⟨by rw [decide_eq_false HN.out]; rfl, 0, rfl⟩
end Go.Proofs.Ytalmcflcpljnmaa
