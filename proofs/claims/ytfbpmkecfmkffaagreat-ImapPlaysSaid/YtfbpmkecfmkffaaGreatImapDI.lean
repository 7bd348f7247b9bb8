/- Package imap at int: three lists behind one another (slices.Concat), a list's copy (slices.Clone), and parts laid where a span's blocks are (lay). -/
import Derived.Test.YtfbpmkecfmkffaaGreatImapCI
import Derived.Lib.SliceRun
namespace Go.Proofs.YtfbpmkecfmkffaaGreat
open Go Go.RowKit SpanP PartP ImapP
set_option maxRecDepth 100000
set_option maxHeartbeats 1000000
set_option linter.unusedSimpArgs false

/-- slices.Grow of nil: an empty list with room. -/
theorem growMI_nil (n : Nat) (hn : n ≤ 1000000) (w : World) : Calls Tryz.prog 132 #[.slice none 0 0, .int .i64 n] w fun e w' => ∃ v, e = .returned v ∧ MRowI w' w.heap.size v [] ∧ Below w.heap.size w w' := by
  obtain ⟨i0, hi, hz0, hz1, hz2⟩ := info_parts (elemMI).info
  by_cases h0 : n = 0
  · subst h0
    clear hi hz0 hz1 hz2
    have e1 : IntKind.i64.wrap (0 - 0) = 0 := by decide
    go_enter Tryz.func132, Tryz.ntmps132
    go_wp2
    go_ret
    exact ⟨_, rfl, MRowI.nil _ _, Below.refl _ _⟩
  · have hp : 0 < n := by omega
    have hap := Lib.run_append_nil_zeros (P := Tryz.prog) w 28 3 28 73 i0 _ .i64 .i64 Tryz.underlying28 Tryz.underlying3 hi hz0 n hp (by rw [hz1]; omega) (by omega) (by rw [hz2]; omega)
    have hge := grownCap_ge w n 0 73
    have hmx : maxLen = 9223372036854775807 := by decide
    have hcm : grownCap w n 0 73 ≤ maxLen := grownCap_le_maxLen w n 0 73 (by omega)
    obtain ⟨cap, hcap⟩ : ∃ cap, cap = grownCap w n 0 73 := ⟨_, rfl⟩
    rw [← hcap] at hap hge hcm
    obtain ⟨cs, hcs⟩ : ∃ cs, cs = Builtin.zeroCells (Value.agg #[.int .i64 0, .int .i64 0, (Value.int .i64 0)]).cells n ++ Builtin.zeroCells (Value.agg #[.int .i64 0, .int .i64 0, (Value.int .i64 0)]).cells (cap - n) := ⟨_, rfl⟩
    rw [← hcs] at hap
    have hsz : cs.size = cap * 3 := by
      rw [hcs, Array.size_append, size_zeroCells, size_zeroCells, (elemMI).zero]
      omega
    have hcap63 : (cap : Int) ≤ 9223372036854775807 := by omega
    have HS : Hid (cs.size = cap * 3 ∧ cap ≤ maxLen) := Lib.hid ⟨hsz, hcm⟩
    clear hi hz0 hz1 hz2 hcs hsz hcap hcm hmx
    go_enter Tryz.func132, Tryz.ntmps132
    go_wp2_with (at_builtin; refine Lib.wpList_append_run _ rfl _ _ _ _ rfl _ _ rfl rfl _ _ hap ?_)
    go_ret
    refine ⟨_, rfl, ⟨by simp [cellsMI], .inr ⟨w.heap.size, 0, cap, cs, rfl, Nat.le_refl _, heap_alloc_new w.drew _, by simp, HS.out.2, by have := HS.out.1; omega, by simp [cellsMI]⟩⟩, ((Below.refl _ w).drew).alloc (Nat.le_refl _) _⟩
theorem three_facts (a b c : Nat) (h1 : a ≤ 300000) (h2 : b ≤ 300000) (h3 : c ≤ 300000) : IntKind.i64.wrap (0 + (a : Int)) = (a : Int) ∧ IntKind.i64.wrap ((a : Int) + (b : Int)) = (a : Int) + (b : Int) ∧ IntKind.i64.wrap ((a : Int) + (b : Int) + (c : Int)) = (a : Int) + (b : Int) + (c : Int) ∧
    wrap64 (a : Int) = (a : Int) ∧ wrap64 ((a : Int) + (b : Int)) = (a : Int) + (b : Int) ∧ wrap64 ((a : Int) + (b : Int) + (c : Int)) = (a : Int) + (b : Int) + (c : Int) ∧
    decide ((a : Int) < 0) = false ∧ decide ((a : Int) + (b : Int) < 0) = false ∧ decide ((a : Int) + (b : Int) + (c : Int) < 0) = false := by
  refine ⟨?_, IntWalk.i64_in _ (by omega), IntWalk.i64_in _ (by omega), IntWalk.wrap64_in _ (by omega), IntWalk.wrap64_in _ (by omega), IntWalk.wrap64_in _ (by omega), decide_eq_false (by omega), decide_eq_false (by omega), decide_eq_false (by omega)⟩
  rw [IntWalk.i64_in _ (by omega)]; omega
/-- slices.Concat of three lists. -/
theorem concatMI_any (u1 u2 u3 : Value) (l1 l2 l3 : List (PtV Int)) (g T : Nat) (w : World) (hg : Sits w g T #[u1, u2, u3]) (h1 : PtsI w u1 l1) (h2 : PtsI w u2 l2) (h3 : PtsI w u3 l3)
    (n1 : l1.length ≤ 300000) (n2 : l2.length ≤ 300000) (n3 : l3.length ≤ 300000) :
    Calls Tryz.prog 96 #[.slice (some ⟨g, 0, none⟩) 3 3] w fun e w' => ∃ x, e = .returned x ∧ MRowI w' w.heap.size x (l1 ++ l2 ++ l3) ∧ Below w.heap.size w w' := by
  have H1 := Lib.hid h1
  have H2 := Lib.hid h2
  have H3 := Lib.hid h3
  have HN : Hid (l1.length ≤ 300000 ∧ l2.length ≤ 300000 ∧ l3.length ≤ 300000) := Lib.hid ⟨n1, n2, n3⟩
  obtain ⟨A1, c1, rfl, -, -, -⟩ := h1.read
  obtain ⟨A2, c2, rfl, -, -, -⟩ := h2.read
  obtain ⟨A3, c3, rfl, -, -, -⟩ := h3.read
  have k0 := hg.cell 0
  have k1 := hg.cell 1
  have k2 := hg.cell 2
  simp at k0 k1 k2
  have hgrow := growMI_nil (l1.length + l2.length + l3.length) (by omega) w
  obtain ⟨m1, hm1⟩ : ∃ m, m = l1.length := ⟨_, rfl⟩
  obtain ⟨m2, hm2⟩ : ∃ m, m = l2.length := ⟨_, rfl⟩
  obtain ⟨m3, hm3⟩ : ∃ m, m = l3.length := ⟨_, rfl⟩
  rw [← hm1, ← hm2, ← hm3] at hgrow
  rw [← hm1] at k0
  rw [← hm2] at k1
  rw [← hm3] at k2
  obtain ⟨e1, e2, e3, g1, g2, g3, f1, f2, f3⟩ := three_facts m1 m2 m3 (by omega) (by omega) (by omega)
  rw [Int.natCast_add, Int.natCast_add] at hgrow
  rw [← hm1, ← hm2, ← hm3] at hg
  have HG := Lib.hid hg
  rw [← hm1] at H1
  rw [← hm2] at H2
  rw [← hm3] at H3
  clear hg h1 h2 h3 n1 n2 n3 hm1 hm2 hm3
  go_enter Tryz.func96, Tryz.ntmps96
  go_wp2
  refine wp_loop_rounds 4 ?_
  repeat any_goals (rw [rounds_succ]; go_wp2_with fail)
  refine hgrow.mono ?_
  rintro e w1 ⟨x1, rfl, hR1, hB1⟩
  obtain ⟨x2, w2, hr2, hR2, hB2, _, _⟩ := pushMI_all hR1 (H1.out.below hB1) hB1.size (by simp) (by have := HN.out; omega) 28
  obtain ⟨x3, w3, hr3, hR3, hB3, _, _⟩ := pushMI_all hR2 (H2.out.below (hB1.trans hB2)) (hB1.trans hB2).size (by have := HN.out; simp; omega) (by have := HN.out; omega) 28
  obtain ⟨x4, w4, hr4, hR4, hB4, _, _⟩ := pushMI_all hR3 (H3.out.below ((hB1.trans hB2).trans hB3)) ((hB1.trans hB2).trans hB3).size (by have := HN.out; simp; omega) (by have := HN.out; omega) 28
  have c0 := (HG.out.below' hB1).cell 0
  have c1 := (HG.out.below' (hB1.trans hB2)).cell 1
  have c2 := (HG.out.below' ((hB1.trans hB2).trans hB3)).cell 2
  simp at c0 c1 c2
  have HR := Lib.hid hR4
  have HB := Lib.hid (((hB1.trans hB2).trans hB3).trans hB4)
  clear hR1 hB1 hR2 hB2 hR3 hB3 hR4 hB4 hgrow
  go_wp2
  refine wp_loop_rounds 4 ?_
  rw [rounds_succ]
  go_wp2_with (at_builtin; refine Lib.wpList_append_run _ rfl _ _ _ _ rfl _ _ rfl rfl _ _ hr2 ?_)
  rw [rounds_succ]
  go_wp2_with (at_builtin; refine Lib.wpList_append_run _ rfl _ _ _ _ rfl _ _ rfl rfl _ _ hr3 ?_)
  rw [rounds_succ]
  go_wp2_with (at_builtin; refine Lib.wpList_append_run _ rfl _ _ _ _ rfl _ _ rfl rfl _ _ hr4 ?_)
  rw [rounds_succ]
  go_wp2_with fail
  go_ret
  exact ⟨_, rfl, by simpa using HR.out, HB.out⟩
/-- slices.Clone: the same parts in a block of their own. -/
theorem cloneMI_any (v : Value) (l : List (PtV Int)) (w : World) (h : PtsI w v l) (hs : l.length ≤ 1000000) :
    Calls Tryz.prog 30 #[v] w fun e w' => ∃ x, e = .returned x ∧ MRowI w' w.heap.size x l ∧ Below w.heap.size w w' := by
  have hH := h
  obtain ⟨A, cap, rfl, h1, h2, h3⟩ := h.read
  have hb : Below w.heap.size w (w.alloc (.cells #[] 73)) := (Below.refl _ w).alloc (Nat.le_refl _) _
  have hrow : MRowI (w.alloc (.cells #[] 73)) w.heap.size (.slice (some ⟨w.heap.size, 0, none⟩) 0 0) [] := ⟨rfl, .inr ⟨w.heap.size, 0, 0, #[], rfl, Nat.le_refl _, heap_alloc_new w _, by simp, by omega, by simp, rfl⟩⟩
  obtain ⟨x, w2, hr, hR, hB, _, _⟩ := pushMI_all hrow (hH.below hb) (by rw [World.size_alloc]; omega) (by simp) hs 28
  rw [List.nil_append] at hR
  have HR := Lib.hid (And.intro hR (hb.trans hB))
  have hq := Lib.run_eql_slice_nil (P := Tryz.prog) w 28 73 A l.length cap 0 0 Tryz.underlying28
  by_cases hA : A = none
  · subst hA
    have hl : l = [] := by
      cases l with
      | nil => rfl
      | cons y l => obtain ⟨b, o, e, _⟩ := h3 0 (by simp); cases e
    subst hl
    simp only [List.length_nil] at hq
    clear h1 h2 h3 hb hrow hr hR hB HR
    go_enter Tryz.func30, Tryz.ntmps30
    go_wp2
    go_ret
    exact ⟨_, rfl, MRowI.nil _ _, Below.refl _ _⟩
  · obtain ⟨p, rfl⟩ := Option.ne_none_iff_exists'.1 hA
    clear h1 h2 h3 hb hrow hR hB hA
    go_enter Tryz.func30, Tryz.ntmps30
    go_wp2_with (at_builtin; refine Lib.wpList_append_run _ rfl _ _ _ _ rfl _ _ rfl rfl _ _ hr ?_)
    go_ret
    exact ⟨x, rfl, HR.out.1, HR.out.2⟩
end Go.Proofs.YtfbpmkecfmkffaaGreat
