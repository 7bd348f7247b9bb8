/- Lists of spans: two are put behind one another (slices.Concat), held against one another (slices.Equal, commonsbook's SameSpans), and what they have in common (common). -/
import Derived.Test.YtbaldeaejnmdpaaSpanR
import Derived.Lib.AppendZeros
namespace Go.Proofs.Ytbaldeaejnmdpaa
open Go Go.RowKit SpanP
set_option maxRecDepth 100000
set_option maxHeartbeats 1000000
set_option linter.unusedSimpArgs false

/-- slices.Grow of nil: an empty list with room. -/
theorem growS_nil (n : Nat) (hn : n ≤ 1000000) (w : World) : Calls Try.prog 29 #[.slice none 0 0, .int .i64 n] w fun e w' => ∃ v, e = .returned v ∧ SRow w' w.heap.size v [] ∧ Below w.heap.size w w' := by
  obtain ⟨i0, hi, hz0, hz1, hz2⟩ := info_parts (elemS).info
  by_cases h0 : n = 0
  · subst h0
    clear hi hz0 hz1 hz2
    have e1 : IntKind.i64.wrap (0 - 0) = 0 := by decide
    go_enter Try.func29, Try.ntmps29
    go_wp2
    go_ret
    exact ⟨_, rfl, SRow.nil _ _, Below.refl _ _⟩
  · have hp : 0 < n := by omega
    have hap := Lib.run_append_nil_zeros (P := Try.prog) w 22 3 22 31 i0 _ .i64 .i64 Try.underlying22 Try.underlying3 hi hz0 n hp (by rw [hz1]; omega) (by omega) (by rw [hz2]; omega)
    have hge := grownCap_ge w n 0 31
    have hmx : maxLen = 9223372036854775807 := by decide
    have hcm : grownCap w n 0 31 ≤ maxLen := grownCap_le_maxLen w n 0 31 (by omega)
    obtain ⟨cap, hcap⟩ : ∃ cap, cap = grownCap w n 0 31 := ⟨_, rfl⟩
    rw [← hcap] at hap hge hcm
    obtain ⟨cs, hcs⟩ : ∃ cs, cs = Builtin.zeroCells (Value.agg #[.int .i64 0, .int .i64 0]).cells n ++ Builtin.zeroCells (Value.agg #[.int .i64 0, .int .i64 0]).cells (cap - n) := ⟨_, rfl⟩
    rw [← hcs] at hap
    have hsz : cs.size = cap * 2 := by
      rw [hcs, Array.size_append, size_zeroCells, size_zeroCells, (elemS).zero]
      omega
    have hcap63 : (cap : Int) ≤ 9223372036854775807 := by omega
    have HS : Hid (cs.size = cap * 2 ∧ cap ≤ maxLen) := Lib.hid ⟨hsz, hcm⟩
    clear hi hz0 hz1 hz2 hcs hsz hcap hcm hmx
    go_enter Try.func29, Try.ntmps29
    go_wp2_with (at_builtin; refine Lib.wpList_append_run _ rfl _ _ _ _ rfl _ _ rfl rfl _ _ hap ?_)
    go_ret
    refine ⟨_, rfl, ⟨by simp [cellsS], .inr ⟨w.heap.size, 0, cap, cs, rfl, Nat.le_refl _, heap_alloc_new w.drew _, by simp, HS.out.2, by have := HS.out.1; omega, by simp [cellsS]⟩⟩, ((Below.refl _ w).drew).alloc (Nat.le_refl _) _⟩

theorem concatS_any (u v : Value) (l m : List S) (g T : Nat) (w : World) (hg : Sits w g T #[u, v]) (hu : Spans w u l) (hv : Spans w v m) (hl : l.length ≤ 1000) (hm : m.length ≤ 1000) :
    Calls Try.prog 21 #[.slice (some ⟨g, 0, none⟩) 2 2] w fun e w' => ∃ x, e = .returned x ∧ SRow w' w.heap.size x (l ++ m) ∧ Below w.heap.size w w' := by
  have hU := hu
  have hV := hv
  obtain ⟨A, ca, rfl, ha1, ha2, _⟩ := hu.read
  obtain ⟨B, cb, rfl, hb1, hb2, _⟩ := hv.read
  have c0 := hg.cell 0
  have c1 := hg.cell 1
  simp at c0 c1
  have e1 : IntKind.i64.wrap (0 + (l.length : Int)) = (l.length : Int) := by rw [IntWalk.i64_in _ (by omega)]; omega
  have e2 : IntKind.i64.wrap ((l.length : Int) + (m.length : Int)) = ((l.length + m.length : Nat) : Int) := by rw [IntWalk.i64_in _ (by omega)]; omega
  have e3 : decide ((l.length : Int) < 0) = false := by simp
  have e4 : decide (((l.length + m.length : Nat) : Int) < 0) = false := decide_eq_false (by omega)
  have hlm : (l.length : Int) ≤ 1000 := by omega
  have HG := Lib.hid hg
  have HU := Lib.hid hU
  have HV := Lib.hid hV
  have hgrow := growS_nil (l.length + m.length) (by omega) w
  rw [Int.natCast_add] at hgrow
  have HL := Lib.hid hl
  have HM := Lib.hid hm
  clear hg hU hV hu hv hl hm
  go_enter Try.func21, Try.ntmps21
  go_wp2
  refine wp_loop_rounds 3 ?_
  repeat any_goals (rw [rounds_succ]; go_wp2_with fail)
  refine hgrow.mono ?_
  rintro e w1 ⟨x1, rfl, hR1, hB1⟩
  obtain ⟨x2, w2, hr2, hR2, hB2, _, _⟩ := pushS_all hR1 (HU.out.below hB1) hB1.size (by simp) (by have := HL.out; omega) 22
  obtain ⟨x3, w3, hr3, hR3, hB3, _, _⟩ := pushS_all hR2 (HV.out.below (hB1.trans hB2)) (hB1.trans hB2).size (by have := HL.out; simp; omega) (by have := HM.out; omega) 22
  have c0 := (HG.out.below' hB1).cell 0
  have c1 := (HG.out.below' (hB1.trans hB2)).cell 1
  simp at c0 c1
  have HR := Lib.hid hR3
  have HB := Lib.hid ((hB1.trans hB2).trans hB3)
  clear hR1 hB1 hR2 hB2 hR3 hB3 hgrow
  go_wp2
  refine wp_loop_rounds 3 ?_
  repeat any_goals (rw [rounds_succ]; go_wp2_with (first | (at_builtin; refine Lib.wpList_append_run _ rfl _ _ _ _ rfl _ _ rfl rfl _ _ hr2 ?_) | (at_builtin; refine Lib.wpList_append_run _ rfl _ _ _ _ rfl _ _ rfl rfl _ _ hr3 ?_)))
  go_ret
  exact ⟨_, rfl, by simpa using HR.out, HB.out⟩

theorem sameS_yes (u v : Value) (l : List S) (w : World) (hu : Spans w u l) (hv : Spans w v l) :
    Calls Try.prog 10 #[u, v] w fun e w' => e = .returned (.bool true) ∧ ∃ n, w' = w.drewN n := by
  obtain ⟨A, ca, rfl, ha1, ha2, ha3⟩ := hu.read
  obtain ⟨B, cb, rfl, hb1, hb2, hb3⟩ := hv.read
  have hlen : (l.length : Int) ≤ 9223372036854775807 := by omega
  have HA := Lib.hid ha3
  have HB := Lib.hid hb3
  clear ha3 hb3 hu hv
  go_enter Try.func10, Try.ntmps10
  go_wp2
  go_loopw [5] (fun i wr => ∃ k : Nat, k ≤ l.length ∧ i = .int .i64 k ∧ ∃ n, wr = w.drewN n) (fun i _ => l.length - (intOf i).toNat)
  case atStart => exact ⟨0, by omega, rfl, 0, rfl⟩
  case round =>
    obtain ⟨k, hk, rfl, n, rfl⟩ := hrel
    by_cases hlt : k < l.length
    · obtain ⟨b, o, rfl, _, hcb, hcc⟩ := HA.out k hlt
      obtain ⟨b', o', rfl, _, hcb', hcc'⟩ := HB.out k hlt
      generalize l[k].1 = p at hcb hcb'
      generalize l[k].2 = q at hcc hcc'
      go_wp2
      go_quiet (fail)
      go_wp2
      go_roundw
      case rel => exact ⟨k + 1, by omega, by go_num, _, rfl⟩
      case measure => simp [intOf]; omega
    · go_wp2
      go_ret
      exact ⟨rfl, n, rfl⟩
end Go.Proofs.Ytbaldeaejnmdpaa
