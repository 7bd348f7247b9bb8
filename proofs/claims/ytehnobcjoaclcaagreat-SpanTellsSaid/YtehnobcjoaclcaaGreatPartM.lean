/- commonsref1: Meet, the document's own. -/
import Derived.Test.YtehnobcjoaclcaaGreatPartC
import Derived.Test.YtehnobcjoaclcaaGreatGB
import Derived.Test.YtehnobcjoaclcaaGreatSpanB
import Derived.BigQuiet
namespace Go.Proofs.YtehnobcjoaclcaaGreat
open Go Go.RowKit SpanP PartP
set_option maxRecDepth 100000
set_option maxHeartbeats 1000000
set_option linter.unusedSimpArgs false

theorem refmeet_any (s t : S) (w : World) : Calls Tryz.prog 10 #[aggS s, aggS t] w fun e w' => e = .returned (meetV (meet s t)) ∧ Below w.heap.size w w' := by
  obtain ⟨a, b⟩ := s
  obtain ⟨c, d⟩ := t
  obtain ⟨x, hx⟩ : ∃ x, x = max a c := ⟨_, rfl⟩
  obtain ⟨y, hy⟩ : ∃ y, y = min b d := ⟨_, rfl⟩
  have HX : Hid (max a c = x) := Lib.hid hx.symm
  have HY : Hid (min b d = y) := Lib.hid hy.symm
  unfold aggS
  simp only
  obtain ⟨r, hr⟩ : ∃ r, r = meetV (meet (a, b) (c, d)) := ⟨_, rfl⟩
  rw [← hr]
  have hv1 : ∀ W : World, Calls Tryz.prog 5 #[.agg #[.int .i64 a, .int .i64 b]] W fun e w' => e = .returned (.bool (decide (Ok (a, b)))) ∧ ∃ q os, w' = Sort.grow (W.drewN q) os := refvalid_any (a, b)
  have hv2 : ∀ W : World, Calls Tryz.prog 5 #[.agg #[.int .i64 c, .int .i64 d]] W fun e w' => e = .returned (.bool (decide (Ok (c, d)))) ∧ ∃ q os, w' = Sort.grow (W.drewN q) os := refvalid_any (c, d)
  have hv3 : ∀ W : World, Calls Tryz.prog 5 #[.agg #[.int .i64 x, .int .i64 y]] W fun e w' => e = .returned (.bool (decide (Ok (x, y)))) ∧ ∃ q os, w' = Sort.grow (W.drewN q) os := refvalid_any (x, y)
  have hm : r = if Ok (a, b) ∧ Ok (c, d) ∧ Ok (x, y) then .tuple #[.agg #[.int .i64 x, .int .i64 y], .bool true] else .tuple #[.agg #[.int .i64 0, .int .i64 0], .bool false] := by
    rw [hr, hx, hy]
    unfold meet
    simp only
    split <;> rfl
  have HM := Lib.hid hm
  clear hr hx hy hm
  go_enter Tryz.func10, Tryz.ntmps10
  go_wp2_with (first | ((with_reducible refine at_list ?_); refine wpList_max_eq rfl (.tmp 8) (.tmp 10) _ rfl _ _ _ _ _ rfl rfl HX.out ?_) | ((with_reducible refine at_list ?_); refine wpList_min_eq rfl (.tmp 13) (.tmp 15) _ rfl _ _ _ _ _ rfl rfl HY.out ?_))
  obtain ⟨w4, hw4⟩ : ∃ w4, w4 = (((w.alloc (.cells #[.int .i64 a, .int .i64 b] 43)).alloc (.cells #[.int .i64 c, .int .i64 d] 43)).alloc (.cells #[.int .i64 0, .int .i64 0] 43)).alloc (.cells #[.int .i64 x, .int .i64 y] 43) := ⟨_, rfl⟩
  obtain ⟨p0, hp0⟩ : ∃ p, p = w.heap.size := ⟨_, rfl⟩
  obtain ⟨p1, hp1⟩ : ∃ p, p = w.heap.size + 1 := ⟨_, rfl⟩
  obtain ⟨p2, hp2⟩ : ∃ p, p = w.heap.size + 1 + 1 := ⟨_, rfl⟩
  obtain ⟨p3, hp3⟩ : ∃ p, p = w.heap.size + 1 + 1 + 1 := ⟨_, rfl⟩
  have s0 : Sits w4 p0 43 #[.int .i64 a, .int .i64 b] := hw4 ▸ hp0 ▸ (((Sits.fresh w _ _).alloc _).alloc _).alloc _
  have s1 : Sits w4 p1 43 #[.int .i64 c, .int .i64 d] := by
    have := Sits.fresh (w.alloc (.cells #[.int .i64 a, .int .i64 b] 43)) 43 #[.int .i64 c, .int .i64 d]
    rw [World.size_alloc, ← hp1] at this
    rw [hw4]
    exact (this.alloc _).alloc _
  have s2 : Sits w4 p2 43 #[.int .i64 0, .int .i64 0] := by
    have := Sits.fresh ((w.alloc (.cells #[.int .i64 a, .int .i64 b] 43)).alloc (.cells #[.int .i64 c, .int .i64 d] 43)) 43 #[.int .i64 0, .int .i64 0]
    rw [World.size_alloc, World.size_alloc, ← hp2] at this
    rw [hw4]
    exact this.alloc _
  have s3 : Sits w4 p3 43 #[.int .i64 x, .int .i64 y] := by
    have := Sits.fresh (((w.alloc (.cells #[.int .i64 a, .int .i64 b] 43)).alloc (.cells #[.int .i64 c, .int .i64 d] 43)).alloc (.cells #[.int .i64 0, .int .i64 0] 43)) 43 #[.int .i64 x, .int .i64 y]
    rw [World.size_alloc, World.size_alloc, World.size_alloc, ← hp3] at this
    rw [hw4]
    exact this
  have hB : Below w.heap.size w w4 := by
    rw [hw4]
    have b1 := (Below.refl w.heap.size w).alloc (Nat.le_refl _) (.cells #[.int .i64 a, .int .i64 b] 43)
    have b2 := b1.alloc b1.size (.cells #[.int .i64 c, .int .i64 d] 43)
    have b3 := b2.alloc b2.size (.cells #[.int .i64 0, .int .i64 0] 43)
    exact b3.alloc b3.size (.cells #[.int .i64 x, .int .i64 y] 43)
  have HP : Hid (w.heap.size ≤ p2) := Lib.hid (by omega)
  rw [← hw4, ← hp3, ← hp2, ← hp1, ← hp0]
  have H0 := Lib.hid s0
  have H1 := Lib.hid s1
  have H2 := Lib.hid s2
  have H3 := Lib.hid s3
  have HB := Lib.hid hB
  clear s0 s1 s2 s3 hB hp0 hp1 hp2 hp3 hw4
  by_cases k1 : Ok (a, b)
  · have d1 : decide (Ok (a, b)) = true := decide_eq_true k1
    rw [d1] at hv1
    by_cases k2 : Ok (c, d)
    · have d2 : decide (Ok (c, d)) = true := decide_eq_true k2
      rw [d2] at hv2
      by_cases k3 : Ok (x, y)
      · have d3 : decide (Ok (x, y)) = true := decide_eq_true k3
        rw [d3] at hv3
        have HR := Lib.hid (HM.out.trans (if_pos ⟨k1, k2, k3⟩))
        clear d1 d2 d3 k1 k2 k3
        refine (hv1 _).mono ?_
        rintro e w5 ⟨rfl, hg⟩
        have HG1 := Lib.hid (hg)
        clear hg
        have c0 := (H1.out.below' (grown_below HG1.out)).cell 0
        have c1 := (H1.out.below' (grown_below HG1.out)).cell 1
        simp at c0 c1
        go_wp2_with fail
        refine (hv2 _).mono ?_
        rintro e w6 ⟨rfl, hg⟩
        have HG2 := Lib.hid (grown_trans HG1.out hg)
        clear hg
        clear c0 c1
        have c0 := (H3.out.below' (grown_below HG2.out)).cell 0
        have c1 := (H3.out.below' (grown_below HG2.out)).cell 1
        simp at c0 c1
        go_wp2_with fail
        refine (hv3 _).mono ?_
        rintro e w7 ⟨rfl, hg⟩
        have HG3 := Lib.hid (grown_trans HG2.out hg)
        clear hg
        clear c0 c1
        clear hv1 hv2 hv3
        have H2' := Lib.hid (H2.out.below' (grown_below HG3.out))
        have z0 := H2'.out.cell 0
        have z1 := H2'.out.cell 1
        simp at z0 z1
        have f0 := H2'.out.warm 0
        have f1 := H2'.out.warm 1
        have c0 := (H3.out.below' (grown_below HG3.out)).cell 0
        have c1 := (H3.out.below' (grown_below HG3.out)).cell 1
        simp at c0 c1
        go_wp2
        have h8 := (H2'.out.put 0 (.int .i64 x)).put 1 (.int .i64 y)
        simp at h8
        have hB8 := below_put (below_put (HB.out.trans ((grown_below HG3.out).mono HB.out.size)) HP.out 0 (.int .i64 x)) HP.out 1 (.int .i64 y)
        generalize (w7.setCell ⟨p2, 0, none⟩ (.int .i64 x)).setCell ⟨p2, 1, none⟩ (.int .i64 y) = w8 at h8 hB8 ⊢
        clear z0 z1 f0 f1
        have z0 := h8.cell 0
        have z1 := h8.cell 1
        simp at z0 z1
        refine bodyPost_ret (v := (.tuple #[.agg #[.int .i64 x, .int .i64 y], .bool true])) (by simp [results, Tryz.results10, go_sem, z0, z1]) rfl ⟨by rw [HR.out], hB8⟩
      · have d3 : decide (Ok (x, y)) = false := decide_eq_false k3
        rw [d3] at hv3
        have HR := Lib.hid (HM.out.trans (if_neg fun e => k3 e.2.2))
        clear d1 d2 d3 k1 k2 k3
        refine (hv1 _).mono ?_
        rintro e w5 ⟨rfl, hg⟩
        have HG1 := Lib.hid (hg)
        clear hg
        have c0 := (H1.out.below' (grown_below HG1.out)).cell 0
        have c1 := (H1.out.below' (grown_below HG1.out)).cell 1
        simp at c0 c1
        go_wp2_with fail
        refine (hv2 _).mono ?_
        rintro e w6 ⟨rfl, hg⟩
        have HG2 := Lib.hid (grown_trans HG1.out hg)
        clear hg
        clear c0 c1
        have c0 := (H3.out.below' (grown_below HG2.out)).cell 0
        have c1 := (H3.out.below' (grown_below HG2.out)).cell 1
        simp at c0 c1
        go_wp2_with fail
        refine (hv3 _).mono ?_
        rintro e w7 ⟨rfl, hg⟩
        have HG3 := Lib.hid (grown_trans HG2.out hg)
        clear hg
        clear c0 c1
        clear hv1 hv2 hv3
        have H2' := Lib.hid (H2.out.below' (grown_below HG3.out))
        have z0 := H2'.out.cell 0
        have z1 := H2'.out.cell 1
        simp at z0 z1
        have f0 := H2'.out.warm 0
        have f1 := H2'.out.warm 1
        go_wp2
        have h8 := (H2'.out.put 0 (.int .i64 0)).put 1 (.int .i64 0)
        simp at h8
        have hB8 := below_put (below_put (HB.out.trans ((grown_below HG3.out).mono HB.out.size)) HP.out 0 (.int .i64 0)) HP.out 1 (.int .i64 0)
        generalize (w7.setCell ⟨p2, 0, none⟩ (.int .i64 0)).setCell ⟨p2, 1, none⟩ (.int .i64 0) = w8 at h8 hB8 ⊢
        clear z0 z1 f0 f1
        have z0 := h8.cell 0
        have z1 := h8.cell 1
        simp at z0 z1
        refine bodyPost_ret (v := (.tuple #[.agg #[.int .i64 0, .int .i64 0], .bool false])) (by simp [results, Tryz.results10, go_sem, z0, z1]) rfl ⟨by rw [HR.out], hB8⟩
    · have d2 : decide (Ok (c, d)) = false := decide_eq_false k2
      rw [d2] at hv2
      have HR := Lib.hid (HM.out.trans (if_neg fun e => k2 e.2.1))
      clear d1 d2 k1 k2
      refine (hv1 _).mono ?_
      rintro e w5 ⟨rfl, hg⟩
      have HG1 := Lib.hid (hg)
      clear hg
      have c0 := (H1.out.below' (grown_below HG1.out)).cell 0
      have c1 := (H1.out.below' (grown_below HG1.out)).cell 1
      simp at c0 c1
      go_wp2_with fail
      refine (hv2 _).mono ?_
      rintro e w6 ⟨rfl, hg⟩
      have HG2 := Lib.hid (grown_trans HG1.out hg)
      clear hg
      clear c0 c1
      clear hv1 hv2 hv3
      have H2' := Lib.hid (H2.out.below' (grown_below HG2.out))
      have z0 := H2'.out.cell 0
      have z1 := H2'.out.cell 1
      simp at z0 z1
      have f0 := H2'.out.warm 0
      have f1 := H2'.out.warm 1
      go_wp2
      have h8 := (H2'.out.put 0 (.int .i64 0)).put 1 (.int .i64 0)
      simp at h8
      have hB8 := below_put (below_put (HB.out.trans ((grown_below HG2.out).mono HB.out.size)) HP.out 0 (.int .i64 0)) HP.out 1 (.int .i64 0)
      generalize (w6.setCell ⟨p2, 0, none⟩ (.int .i64 0)).setCell ⟨p2, 1, none⟩ (.int .i64 0) = w8 at h8 hB8 ⊢
      clear z0 z1 f0 f1
      have z0 := h8.cell 0
      have z1 := h8.cell 1
      simp at z0 z1
      refine bodyPost_ret (v := (.tuple #[.agg #[.int .i64 0, .int .i64 0], .bool false])) (by simp [results, Tryz.results10, go_sem, z0, z1]) rfl ⟨by rw [HR.out], hB8⟩
  · have d1 : decide (Ok (a, b)) = false := decide_eq_false k1
    rw [d1] at hv1
    have HR := Lib.hid (HM.out.trans (if_neg fun e => k1 e.1))
    clear d1 k1
    refine (hv1 _).mono ?_
    rintro e w5 ⟨rfl, hg⟩
    have HG1 := Lib.hid (hg)
    clear hg
    clear hv1 hv2 hv3
    have H2' := Lib.hid (H2.out.below' (grown_below HG1.out))
    have z0 := H2'.out.cell 0
    have z1 := H2'.out.cell 1
    simp at z0 z1
    have f0 := H2'.out.warm 0
    have f1 := H2'.out.warm 1
    go_wp2
    have h8 := (H2'.out.put 0 (.int .i64 0)).put 1 (.int .i64 0)
    simp at h8
    have hB8 := below_put (below_put (HB.out.trans ((grown_below HG1.out).mono HB.out.size)) HP.out 0 (.int .i64 0)) HP.out 1 (.int .i64 0)
    generalize (w5.setCell ⟨p2, 0, none⟩ (.int .i64 0)).setCell ⟨p2, 1, none⟩ (.int .i64 0) = w8 at h8 hB8 ⊢
    clear z0 z1 f0 f1
    have z0 := h8.cell 0
    have z1 := h8.cell 1
    simp at z0 z1
    refine bodyPost_ret (v := (.tuple #[.agg #[.int .i64 0, .int .i64 0], .bool false])) (by simp [results, Tryz.results10, go_sem, z0, z1]) rfl ⟨by rw [HR.out], hB8⟩
end Go.Proofs.YtehnobcjoaclcaaGreat
