/- ImapNone: of a nil map nothing happens: false, none, 0; whatever the span and the value are. -/
import Derived.Test.YtalmcflcpljnmaaImapH
import Derived.OpenShut
import Derived.ChangeOld
namespace Go.Proofs.Ytalmcflcpljnmaa
open Go Go.RowKit Go.ChangeShapes Go.WideShapes SpanP
set_option maxRecDepth 100000
set_option maxHeartbeats 4000000
set_option linter.unusedSimpArgs false

theorem imapNone_walk (v0 : Value) (s : S) (v : Int) (_wv : (Lit.int .i64 v).wf = true) (w : World)
    (h0 : ((-9223372036854775808 ≤ s.1 ∧ s.1 ≤ 9223372036854775807) ∧ (-9223372036854775808 ≤ s.2 ∧ s.2 ≤ 9223372036854775807)) ∧ v0 = aggS s) :
    Calls Try.prog 3 #[v0, .int .i64 v] w fun e w' => e = .returned (.bool true) ∧ Below w.heap.size w w' := by
  clear _wv
  obtain ⟨-, rfl⟩ := h0
  obtain ⟨a, b⟩ := s
  unfold aggS
  simp only
  obtain ⟨p1, hp1⟩ : ∃ p, p = w.heap.size := ⟨_, rfl⟩
  obtain ⟨w1, hw1⟩ : ∃ w1, w1 = w.alloc (.cells #[.int .i64 a, .int .i64 b] 23) := ⟨_, rfl⟩
  have hb0 : Below w.heap.size w w1 := hw1 ▸ (Below.refl _ w).alloc (Nat.le_refl _) _
  have sp : Sits w1 p1 23 #[.int .i64 a, .int .i64 b] := hw1 ▸ hp1 ▸ Sits.fresh w _ _
  have HB0 := Lib.hid hb0
  have HS := Lib.hid sp
  have c0 := sp.cell 0
  simp at c0
  rw [hw1, hp1] at c0
  clear hb0 sp
  go_enter Try.func3, Try.ntmps3
  go_wp2_with fail
  refine (get_nil a _).mono ?_
  rintro e w2 ⟨rfl, rfl⟩
  go_wp2_with fail
  rw [← hw1, ← hp1]
  clear hw1 hp1 c0
  refine wp_region_ex (by kernel_rfl) (fun W => Below w1.heap.size w1 W) (fun W W' => Below W.heap.size W W')
    [[], [(15, some 0)], [(5, none), (16, some 1)], [(2, none), (16, some 1)], [(1, none), (16, some 1)], [(16, some 1), (17, some 2), (18, some 3), (19, some 4)], [(16, some 1), (20, some 5)], [(16, some 1), (21, some 6)], [(22, some 7)], [(5, none), (23, some 8)], [(2, none), (23, some 8)], [(23, some 8), (24, some 9), (25, some 10)], [(23, some 8), (26, some 11)], [(23, some 8), (27, some 12)], [(28, some 13)], [(7, none), (29, some 14)], [(29, some 14), (30, some 15)], [(29, some 14), (31, some 16)], [(32, some 17)], [(5, none), (33, some 18)], [(2, none), (33, some 18)], [(33, some 18), (34, some 19), (35, some 20)], [(33, some 18), (36, some 21)], [(5, none), (33, some 18)], [(33, some 18), (38, some 23)], [(33, some 18), (39, some 24)], [(33, some 18), (37, some 22), (40, some 25)], [(5, none), (33, some 18)], [(1, none), (33, some 18)], [(33, some 18), (42, some 27), (43, some 28)], [(33, some 18), (44, some 29)], [(33, some 18), (41, some 26), (45, some 30)], [(5, none), (33, some 18)], [(2, none), (33, some 18)], [(1, none), (33, some 18)], [(33, some 18), (47, some 32), (48, some 33), (49, some 34)], [(33, some 18), (46, some 31), (50, some 35)], [(5, none), (33, some 18)], [(33, some 18), (52, some 37)], [(33, some 18), (51, some 36), (53, some 38)], [(33, some 18), (54, some 39)], [(33, some 18), (55, some 40)], [(56, some 41)]]
    [none, none, none, none, some 42, none, none, none, none, none, none, none, none, none, none, some 0, some 1, some 2, some 3, some 4, some 5, some 6, some 7, some 8, some 9, some 10, some 11, some 12, some 13, some 14, some 15, some 16, some 17, some 18, some 19, some 20, some 21, some 22, some 23, some 24, some 25, some 26, some 27, some 28, some 29, some 30, some 31, some 32, some 33, some 34, some 35, some 36, some 37, some 38, some 39, some 40, some 41] (by kernel_rfl) (by kernel_rfl) ((Below.refl _ _).drew) ?_
  refine ex_callx (.bool true) (fun a' W hR hF => ?_) ?_
  ·
    simp only [FactsOf, List.nil_append, List.cons_append, List.getD_cons_zero, List.getD_cons_succ, exists_eq_left, and_true, List.getElem?_toArray, List.getElem?_cons_zero, List.getElem?_cons_succ] at hF
    exact ⟨by simp [Region.wanted, yielded, hF], 9, #[], by go_simp, (alive7_any W).mono fun e w' ⟨he, hB⟩ => ⟨he, hR.trans (hB.mono hR.size), hB⟩⟩
  iterate 4
    refine ex_pure (c := ?_) (fun _ _ => Below.refl _ _) ?_ ?_
    rotate_left
    · intro a' W hR hF
      simp only [FactsOf, List.nil_append, List.cons_append, List.getD_cons_zero, List.getD_cons_succ, exists_eq_left, and_true, List.getElem?_toArray, List.getElem?_cons_zero, List.getElem?_cons_succ] at hF
      have k0 := (HS.out.below' hR).cell 0
      have k1 := (HS.out.below' hR).cell 1
      simp at k0 k1
      refine ⟨?_, ?_⟩
      · simp [Region.wanted, yielded, hF]
      · go_simp
        with_reducible rfl
  refine ex_callx (.bool false) (fun a' W hR hF => ?_) ?_
  ·
    simp only [FactsOf, List.nil_append, List.cons_append, List.getD_cons_zero, List.getD_cons_succ, exists_eq_left, and_true, List.getElem?_toArray, List.getElem?_cons_zero, List.getElem?_cons_succ] at hF
    exact ⟨by simp [Region.wanted, yielded, hF], 10, #[.pointer none, .agg #[.int .i64 a, .int .i64 b], .int .i64 v], by go_simp, (set_nil a b v W).mono fun e w' ⟨he, hB⟩ => ⟨he, hR.trans (hB.mono hR.size), hB⟩⟩
  iterate 5
    refine ex_pure (c := ?_) (fun _ _ => Below.refl _ _) ?_ ?_
    rotate_left
    · intro a' W hR hF
      simp only [FactsOf, List.nil_append, List.cons_append, List.getD_cons_zero, List.getD_cons_succ, exists_eq_left, and_true, List.getElem?_toArray, List.getElem?_cons_zero, List.getElem?_cons_succ] at hF
      have k0 := (HS.out.below' hR).cell 0
      have k1 := (HS.out.below' hR).cell 1
      simp at k0 k1
      refine ⟨?_, ?_⟩
      · simp [Region.wanted, yielded, hF]
      · go_simp
        with_reducible rfl
  refine ex_callx (.bool false) (fun a' W hR hF => ?_) ?_
  ·
    simp only [FactsOf, List.nil_append, List.cons_append, List.getD_cons_zero, List.getD_cons_succ, exists_eq_left, and_true, List.getElem?_toArray, List.getElem?_cons_zero, List.getElem?_cons_succ] at hF
    exact ⟨by simp [Region.wanted, yielded, hF], 11, #[.pointer none, .agg #[.int .i64 a, .int .i64 b]], by go_simp, (clear_nil a b W).mono fun e w' ⟨he, hB⟩ => ⟨he, hR.trans (hB.mono hR.size), hB⟩⟩
  iterate 9
    refine ex_pure (c := ?_) (fun _ _ => Below.refl _ _) ?_ ?_
    rotate_left
    · intro a' W hR hF
      simp only [FactsOf, List.nil_append, List.cons_append, List.getD_cons_zero, List.getD_cons_succ, exists_eq_left, and_true, List.getElem?_toArray, List.getElem?_cons_zero, List.getElem?_cons_succ] at hF
      have k0 := (HS.out.below' hR).cell 0
      have k1 := (HS.out.below' hR).cell 1
      simp at k0 k1
      refine ⟨?_, ?_⟩
      · simp [Region.wanted, yielded, hF]
      · go_simp
        with_reducible rfl
  refine ex_callx (.slice none 0 0) (fun a' W hR hF => ?_) ?_
  ·
    simp only [FactsOf, List.nil_append, List.cons_append, List.getD_cons_zero, List.getD_cons_succ, exists_eq_left, and_true, List.getElem?_toArray, List.getElem?_cons_zero, List.getElem?_cons_succ] at hF
    exact ⟨by simp [Region.wanted, yielded, hF], 12, #[.pointer none, .agg #[.int .i64 a, .int .i64 b]], by go_simp, (parts_nil a b W).mono fun e w' ⟨he, hB⟩ => ⟨he, hR.trans (hB.mono hR.size), hB⟩⟩
  iterate 2
    refine ex_pure (c := ?_) (fun _ _ => Below.refl _ _) ?_ ?_
    rotate_left
    · intro a' W hR hF
      simp only [FactsOf, List.nil_append, List.cons_append, List.getD_cons_zero, List.getD_cons_succ, exists_eq_left, and_true, List.getElem?_toArray, List.getElem?_cons_zero, List.getElem?_cons_succ] at hF
      have k0 := (HS.out.below' hR).cell 0
      have k1 := (HS.out.below' hR).cell 1
      simp at k0 k1
      refine ⟨?_, ?_⟩
      · simp [Region.wanted, yielded, hF]
      · go_simp
        with_reducible rfl
  refine ex_callx (.slice none 0 0) (fun a' W hR hF => ?_) ?_
  ·
    simp only [FactsOf, List.nil_append, List.cons_append, List.getD_cons_zero, List.getD_cons_succ, exists_eq_left, and_true, List.getElem?_toArray, List.getElem?_cons_zero, List.getElem?_cons_succ] at hF
    exact ⟨by simp [Region.wanted, yielded, hF], 13, #[.pointer none], by go_simp, (all_nil W).mono fun e w' ⟨he, hB⟩ => ⟨he, hB ▸ hR, hB ▸ Below.refl _ _⟩⟩
  iterate 4
    refine ex_pure (c := ?_) (fun _ _ => Below.refl _ _) ?_ ?_
    rotate_left
    · intro a' W hR hF
      simp only [FactsOf, List.nil_append, List.cons_append, List.getD_cons_zero, List.getD_cons_succ, exists_eq_left, and_true, List.getElem?_toArray, List.getElem?_cons_zero, List.getElem?_cons_succ] at hF
      have k0 := (HS.out.below' hR).cell 0
      have k1 := (HS.out.below' hR).cell 1
      simp at k0 k1
      refine ⟨?_, ?_⟩
      · simp [Region.wanted, yielded, hF]
      · go_simp
        with_reducible rfl
  refine ex_callx (.slice none 0 0) (fun a' W hR hF => ?_) ?_
  ·
    simp only [FactsOf, List.nil_append, List.cons_append, List.getD_cons_zero, List.getD_cons_succ, exists_eq_left, and_true, List.getElem?_toArray, List.getElem?_cons_zero, List.getElem?_cons_succ] at hF
    exact ⟨by simp [Region.wanted, yielded, hF], 14, #[.pointer none, .int .i64 v], by go_simp, (with_nil v W).mono fun e w' ⟨he, hB⟩ => ⟨he, hB ▸ hR, hB ▸ Below.refl _ _⟩⟩
  iterate 5
    refine ex_pure (c := ?_) (fun _ _ => Below.refl _ _) ?_ ?_
    rotate_left
    · intro a' W hR hF
      simp only [FactsOf, List.nil_append, List.cons_append, List.getD_cons_zero, List.getD_cons_succ, exists_eq_left, and_true, List.getElem?_toArray, List.getElem?_cons_zero, List.getElem?_cons_succ] at hF
      have k0 := (HS.out.below' hR).cell 0
      have k1 := (HS.out.below' hR).cell 1
      simp at k0 k1
      refine ⟨?_, ?_⟩
      · simp [Region.wanted, yielded, hF]
      · go_simp
        with_reducible rfl
  refine ex_callx (.int .i64 0) (fun a' W hR hF => ?_) ?_
  ·
    simp only [FactsOf, List.nil_append, List.cons_append, List.getD_cons_zero, List.getD_cons_succ, exists_eq_left, and_true, List.getElem?_toArray, List.getElem?_cons_zero, List.getElem?_cons_succ] at hF
    exact ⟨by simp [Region.wanted, yielded, hF], 15, #[.pointer none, .agg #[.int .i64 a, .int .i64 b], .int .i64 v, .int .i64 1], by go_simp, (swap_nil a b v 1 W).mono fun e w' ⟨he, hB⟩ => ⟨he, hR.trans (hB.mono hR.size), hB⟩⟩
  iterate 2
    refine ex_pure (c := ?_) (fun _ _ => Below.refl _ _) ?_ ?_
    rotate_left
    · intro a' W hR hF
      simp only [FactsOf, List.nil_append, List.cons_append, List.getD_cons_zero, List.getD_cons_succ, exists_eq_left, and_true, List.getElem?_toArray, List.getElem?_cons_zero, List.getElem?_cons_succ] at hF
      have k0 := (HS.out.below' hR).cell 0
      have k1 := (HS.out.below' hR).cell 1
      simp at k0 k1
      refine ⟨?_, ?_⟩
      · simp [Region.wanted, yielded, hF]
      · go_simp
        with_reducible rfl
  refine ex_callx (.int .i64 0) (fun a' W hR hF => ?_) ?_
  ·
    simp only [FactsOf, List.nil_append, List.cons_append, List.getD_cons_zero, List.getD_cons_succ, exists_eq_left, and_true, List.getElem?_toArray, List.getElem?_cons_zero, List.getElem?_cons_succ] at hF
    exact ⟨by simp [Region.wanted, yielded, hF], 16, #[.pointer none], by go_simp, (mlen_nil W).mono fun e w' ⟨he, hB⟩ => ⟨he, hB ▸ hR, hB ▸ Below.refl _ _⟩⟩
  iterate 4
    refine ex_pure (c := ?_) (fun _ _ => Below.refl _ _) ?_ ?_
    rotate_left
    · intro a' W hR hF
      simp only [FactsOf, List.nil_append, List.cons_append, List.getD_cons_zero, List.getD_cons_succ, exists_eq_left, and_true, List.getElem?_toArray, List.getElem?_cons_zero, List.getElem?_cons_succ] at hF
      have k0 := (HS.out.below' hR).cell 0
      have k1 := (HS.out.below' hR).cell 1
      simp at k0 k1
      refine ⟨?_, ?_⟩
      · simp [Region.wanted, yielded, hF]
      · go_simp
        with_reducible rfl
  show ∀ W, _ → _
  intro w4 hR2
  simp only [FinOf, List.nil_append, List.cons_append, List.getD_cons_zero, List.getD_cons_succ, forall_eq, forall_exists_index, and_imp, Nat.reduceAdd, Array.getD_eq_getD_getElem?, List.getElem?_toArray, List.getElem?_cons_zero, List.getElem?_cons_succ, Option.getD_some]
  have HE := Lib.hid (HB0.out.trans (hR2.mono HB0.out.size))
  clear hR2
  go_wp2
  go_ret
  exact ⟨rfl, HE.out⟩

set_option maxRecDepth 100000 in
theorem imapNone_lifted (os : Os) (started : os.Started) (H : Type) (enc : TypeId × Value → H) :
    ReturnsInHanded {} Try.checked os 3 .any (Rows.imapNoneSpec.pre6 enc Try.prog Try.f3 Rows.imapNoneRow.domain false) (Rows.imapNoneSpec.post enc Try.prog Try.f3 false true false false) := by
  refine returnsInHanded_of_change (C := Try.checked) own started (by kernel_rfl) Try.func3
    (ChangeSpec.witness6 (enc := enc) (C := Try.checked) false ⟨#[], #[.agg #[.int .i64 0, .int .i64 0], .int .i64 0], []⟩ 8 (by kernel_rfl) (by kernel_rfl) (by kernel_rfl) (by kernel_rfl)) ?_
  intro W base args ds gs before hval0 hW _ _
  have hval : ∀ (j : Nat) t v, Try.f3.params[j]? = some t → args[j]? = some v → Value.okWide Try.prog W .any base t v := hval0
  have hW' := hW
  obtain ⟨p, q, hA0, hV, rfl, hfz, hnd⟩ := hW
  have hA : DataW.TrodAll enc Try.prog W 0 (fun _ => true) true Try.f3.params.toList args.toList ds p := hA0
  rw [Try.params3] at hA hval
  obtain ⟨v0, vs0, d0, ds0, p0, q0, hargs, rfl, rfl, h0, r0⟩ := trodAll_cons hA
  obtain ⟨v1, vs1, d1, ds1, p1, q1, rfl, rfl, rfl, h1, r1⟩ := trodAll_cons r0
  obtain ⟨rfl, rfl, rfl⟩ := trodAll_nil r1
  obtain rfl : args = #[v0, v1] := by cases args; simp_all
  obtain ⟨rfl, rfl⟩ := trodVars_none hV
  have k0 := h0
  have lt0 : ∀ x ∈ p0, x.block < W.heap.size := by obtain ⟨m, hm⟩ := k0; exact DataW.trod_lt m _ _ _ hm
  have k1 := h1
  have lt1 : ∀ x ∈ p1, x.block < W.heap.size := by obtain ⟨m, hm⟩ := k1; exact DataW.trod_lt m _ _ _ hm
  obtain ⟨a0, w0⟩ := span_open (hval 0 23 v0 rfl rfl) k0
  obtain ⟨a1, rfl, rfl, rfl, w1⟩ := open_int Try.underlying3 (hval 1 3 v1 rfl rfl) h1
  clear hA0 hval0
  refine (imapNone_walk v0 a0 a1 w1 W w0).mono fun e W' ⟨he, bel⟩ => ?_
  subst he
  exact ⟨_, rfl, _, _, _, [], _, [], hW', trodAll_mk1 (shut_bool Try.underlying4 _), (trodAll_cons_mk (Below.trod laidOut (by kernel_rfl) (of_decide_eq_true (by kernel_rfl)) k0 bel lt0) (trodAll_cons_mk (Below.trod laidOut (by kernel_rfl) (of_decide_eq_true (by kernel_rfl)) k1 bel lt1) trodAll_mk0)), rfl, bel.frame _, fun h => by cases h⟩

theorem imapNone_said : Rows.ImapNoneSaid :=
  OpenClaim.holds_of_wide 3 Try.f3 rfl rfl rfl rfl rfl rfl rfl ⟨rfl, rfl, rfl, rfl, rfl⟩ rfl rfl rfl rfl rfl (by kernel_rfl) Try.func3 (by kernel_rfl)
    (of_decide_eq_true (by kernel_rfl)) (by unfold Func.isWrapper; first | (rw [if_pos (by decide +kernel)]; kernel_rfl) | (rw [if_neg (by decide +kernel)]; exact ⟨rfl, rfl⟩))
    (fun os started H enc _ => imapNone_lifted os started H enc)
#print axioms imapNone_said
end Go.Proofs.Ytalmcflcpljnmaa
