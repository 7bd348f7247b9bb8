/- SpanTells' first loop: each span alone, and with each of the other list. -/
import Derived.Test.YtehnobcjoaclcaaGreatStB
namespace Go.Proofs.YtehnobcjoaclcaaGreat
open Go Go.RowKit SpanP
set_option maxRecDepth 1000000
set_option maxHeartbeats 4000000
set_option linter.unusedSimpArgs false

def leftS : Code → Code
  | .seq a _ => a
  | c => c
def rightS : Code → Code
  | .seq _ b => b
  | c => c
def blockS : Code → Code
  | .block _ c => c
  | c => c
noncomputable def in1L : Code := blockS (leftS (rightS body1L))
noncomputable def mid1L : Code := leftS (rightS (rightS (rightS in1L)))
noncomputable def next1L : Code := rightS (rightS body1L)
noncomputable def tail1L : Code := rightS (rightS (rightS (rightS in1L)))
theorem body1_split : body1L = .seq (leftS body1L) (.seq (.block 1 (.seq (leftS in1L) (.seq (leftS (rightS in1L)) (.seq (leftS (rightS (rightS in1L))) (.seq mid1L tail1L))))) next1L) := by kernel_rfl
theorem tail1_split : tail1L = .seq (leftS tail1L) (.block 2 (.loop body2L)) := by kernel_rfl
/-- No more pairs. -/
theorem pair_last (f : Nat → Value) (w3 : World) (A : Option Addr) (n cap : Nat) (Q : Exit → Act → World → Prop) (h1 : f 1 = .slice A n cap) (h13 : f 13 = .int .i64 n)
    (hQ : ∀ a', Keep1 (f 0) (.slice A n cap) (f 2) (f 3) (f 9) (f 10) (f 11) (.int .i64 n) a' → Q (.exit 2) a' w3) : Code.wp Tryz.prog body2L Q ⟨frame f, []⟩ w3 := by
  have HQ := Lib.hid hQ
  clear hQ
  unfold frame
  rw [h1, h13]
  clear h1 h13
  conv => arg 2; whnf
  go_wp2_with fail
  exact HQ.out _ ⟨rfl, rfl, rfl, rfl, rfl, rfl, rfl, rfl, rfl, rfl⟩
theorem pairs_loop (v0 v2 v3 v9 v10 : Value) (a0 : Act) (w3 : World) (ob : Nat) (s : S) (A : Option Addr) (cap : Nat) (l : List S) (hl : l.length ≤ 40) (hop : Sits w3 ob 43 #[.int .i64 s.1, .int .i64 s.2]) (hL : Spans w3 (.slice A l.length cap) l) (hcap : (cap : Int) ≤ 9223372036854775807) (hlc : l.length ≤ cap) (Q : Exit → Act → World → Prop)
    (hK : Keep1 v0 (.slice A l.length cap) v2 v3 v9 v10 (.pointer (some ⟨ob, 0, none⟩)) (.int .i64 (0 : Nat)) a0)
    (hQ : ∀ a' w', Keep1 v0 (.slice A l.length cap) v2 v3 v9 v10 (.pointer (some ⟨ob, 0, none⟩)) (.int .i64 l.length) a' → Below w3.heap.size w3 w' → Q (.exit 2) a' w') :
    Code.wp Tryz.prog (.loop body2L) Q a0 w3 := by
  refine wp_loop (fun a' w' => ∃ j : Nat, j ≤ l.length ∧ Keep1 v0 (.slice A l.length cap) v2 v3 v9 v10 (.pointer (some ⟨ob, 0, none⟩)) (.int .i64 j) a' ∧ Below w3.heap.size w3 w') (fun a' _ => l.length - (intOf (a'.tmps.getD 13 undef)).toNat) ⟨0, Nat.zero_le _, hK, Below.refl _ _⟩ ?_
  rintro a' w' ⟨j, hj, hK', hB⟩
  obtain ⟨hd, hsz, g0, g1, g2, g3, g9, g10, g11, g13⟩ := hK'
  have hm : l.length - (intOf (a'.tmps.getD 13 undef)).toNat = l.length - j := by rw [g13]; simp [intOf]
  simp only [hm]
  rw [open_act a' hd hsz]
  rcases Nat.lt_or_ge j l.length with hlt | hge
  · refine pair_round (fun n => a'.tmps.getD n undef) w' ob s A cap l j hlt hl (hop.below' hB) (hL.below hB) hcap hlc _ g1 g11 g13 ?_
    intro a'' w'' hK'' hB''
    have hk13 := hK''.2.2.2.2.2.2.2.2.2
    simp only [g0, g2, g3, g9, g10] at hK''
    refine ⟨⟨j + 1, hlt, hK'', hB.trans (hB''.mono hB.size)⟩, ?_⟩
    rw [hk13]
    simp [intOf]
    omega
  · obtain rfl : j = l.length := by omega
    refine pair_last (fun n => a'.tmps.getD n undef) w' A l.length cap _ g1 g13 (fun a'' h'' => ?_)
    simp only [g0, g2, g3, g9, g10, g11] at h''
    exact hQ a'' w' h'' hB
/-- Valid, Len and Has of one span. -/
theorem mid1_any (f : Nat → Value) (w3 : World) (ob : Nat) (s : S) (c : Int) (Q : Exit → Act → World → Prop) (hop : Sits w3 ob 43 #[.int .i64 s.1, .int .i64 s.2]) (hs : s.2 ≤ top)
    (h2 : f 2 = .int .i64 c) (h11 : f 11 = .pointer (some ⟨ob, 0, none⟩)) (h12 : f 12 = .int .i64 (lenS s))
    (hQ : ∀ a' w', Keep1 (f 0) (f 1) (.int .i64 c) (f 3) (f 9) (f 10) (.pointer (some ⟨ob, 0, none⟩)) (f 13) a' → Below w3.heap.size w3 w' → Q .normal a' w') :
    Code.wp Tryz.prog mid1L Q ⟨frame f, []⟩ w3 := by
  obtain ⟨g, hg⟩ : ∃ g, g = decide (Ok s) := ⟨_, rfl⟩
  obtain ⟨n, hn⟩ : ∃ n, n = lenS s := ⟨_, rfl⟩
  obtain ⟨h, hh⟩ : ∃ h, h = decide (Has s c) := ⟨_, rfl⟩
  have hv1 : ∀ W, Calls Tryz.prog 6 #[aggS s] W fun e w' => e = .returned (.bool g) ∧ Below W.heap.size W w' := fun W => by
    rw [hg]; exact (valid_any s W).mono fun e w' ⟨he, hx⟩ => ⟨he, grown_below hx⟩
  have hv2 : ∀ W, Calls Tryz.prog 5 #[aggS s] W fun e w' => e = .returned (.bool g) ∧ Below W.heap.size W w' := fun W => by
    rw [hg]; exact (refvalid_any s W).mono fun e w' ⟨he, hx⟩ => ⟨he, grown_below hx⟩
  have hv3 : ∀ W, Calls Tryz.prog 7 #[aggS s] W fun e w' => e = .returned (.int .i64 n) ∧ Below W.heap.size W w' := fun W => by
    rw [hn]; exact (len_any s hs W).mono fun e w' ⟨he, hx⟩ => ⟨he, grown_below hx⟩
  have hv4 : ∀ W, Calls Tryz.prog 8 #[aggS s, .int .i64 c] W fun e w' => e = .returned (.bool h) ∧ Below W.heap.size W w' := fun W => by
    rw [hh]; exact (has_any s c W).mono fun e w' ⟨he, hx⟩ => ⟨he, grown_below hx⟩
  unfold aggS at hv1 hv2 hv3 hv4
  rw [← hn] at h12
  have HV1 := Lib.hid hv1
  have HV2 := Lib.hid hv2
  have HV3 := Lib.hid hv3
  have HV4 := Lib.hid hv4
  have HOP := Lib.hid hop
  have HQ := Lib.hid hQ
  have hgg : (g != g) = false := by cases g <;> rfl
  have hhh : (h != h) = false := by cases h <;> rfl
  have hnn : (n != n) = false := by simp
  clear hv1 hv2 hv3 hv4 hop hQ
  by_cases k1 : Ok s
  · have kn : n = s.2 - s.1 := by rw [hn]; unfold lenS; rw [if_pos k1]
    have d1 : decide (n > 0) = true := decide_eq_true (by rw [kn]; unfold Ok at k1; omega)
    by_cases k2 : s.1 ≤ c
    · have d2 : decide (s.1 ≤ c) = true := decide_eq_true k2
      have d3 : decide (c < s.2) = h := by
        rw [hh]; unfold Has; simp [k1, k2]
      clear hg hn hh kn k1 k2 hs
      unfold frame
      rw [h2, h11, h12]
      clear h2 h11 h12
      conv => arg 2; whnf
      go_wp2_with fail
      refine wp_region_ex (by kernel_rfl) (fun W => Below w3.heap.size w3 W) (fun W W' => Below W.heap.size W W')
        [[(11, none)], [(60, some 0)], [(11, none)], [(62, some 2)], [(61, some 1), (63, some 3)], [(64, some 4)], [(11, none), (65, some 5)], [(65, some 5), (66, some 6)], [(12, none), (65, some 5)], [(65, some 5), (67, some 7), (68, some 8)], [(65, some 5), (69, some 9)], [(70, some 10)], [(11, none), (71, some 11)], [(2, none), (71, some 11)], [(71, some 11), (72, some 12), (73, some 13)], [(12, none), (71, some 11)], [(71, some 11), (75, some 15)], [(71, some 11), (76, some 16)], [(11, none), (77, some 17)], [(77, some 17), (78, some 18)], [(2, none), (77, some 17)], [(77, some 17), (79, some 19), (80, some 20)], [(71, some 11), (77, some 17), (81, some 21)], [(71, some 11), (82, some 22)], [(2, none), (83, some 23)], [(11, none), (83, some 23)], [(83, some 23), (85, some 25)], [(83, some 23), (84, some 24), (86, some 26)], [(71, some 11), (83, some 23), (87, some 27)], [(71, some 11), (74, some 14), (88, some 28)], [(71, some 11), (89, some 29)]]
        [none, none, none, none, none, none, none, none, none, none, none, none, none, none, none, none, none, none, none, none, none, none, none, none, none, none, none, none, none, none, none, none, none, none, none, none, none, none, none, none, none, none, none, none, none, none, none, none, none, none, none, none, none, none, none, none, none, none, none, none, some 0, some 1, some 2, some 3, some 4, some 5, some 6, some 7, some 8, some 9, some 10, some 11, some 12, some 13, some 14, some 15, some 16, some 17, some 18, some 19, some 20, some 21, some 22, some 23, some 24, some 25, some 26, some 27, some 28, some 29, some 30, none, none, none, none, none, none, none, none, none, none, none, none, none, none, none, none, none, none, none, none, none, none, none, none, none, none, none, none, none, none, none, none, none, none, none, none, none, none, none, none, none, none, none, none, none, none, none, none, none, none, none, none, none, none, none, none, none, none, none, none, none, none, none, none, none, none, none, none, none, none, none, none, none, none, none, none, none, none, none, none, none, none, none, none, none, none, none, none, none, none, none, none, none, none, none, none, none, none, none, none, none, none, none, none, none, none, none, none, none, none, none, none, none, none, none, none, none, none, none, none, none, none, none, none, none, none, none, none, none, none, none, none, none, none, none, none, none, none, none, none, none, none, none, none, none, none, none, none, none, none, none, none, none, none, none, none, none, none, none, none, none, none, none, none, none, none, none, none, none, none, none, none, none, none, none, none, none, none, none, none, none, none, none, none, none, none, none, none, none, none, none, none, none, none, none, none, none] (by kernel_rfl) (by kernel_rfl) ((Below.refl _ _).drew) ?_
      iterate 1
        refine ex_pure (c := ?_) (fun _ _ => Below.refl _ _) ?_ ?_
        rotate_left
        · intro a' W hR hF
          simp only [FactsOf, List.nil_append, List.cons_append, List.getD_cons_zero, List.getD_cons_succ, exists_eq_left, and_true, List.getElem?_toArray, List.getElem?_cons_zero, List.getElem?_cons_succ] at hF
          have m0 := (HOP.out.below' hR).cell 0
          have m1 := (HOP.out.below' hR).cell 1
          simp at m0 m1
          refine ⟨?_, ?_⟩
          · simp [Region.wanted, yielded, hF]
          · go_simp
            with_reducible rfl
      refine ex_callx (.bool g) (fun a' W hR hF => ?_) ?_
      · skip
        simp only [FactsOf, List.nil_append, List.cons_append, List.getD_cons_zero, List.getD_cons_succ, exists_eq_left, and_true, List.getElem?_toArray, List.getElem?_cons_zero, List.getElem?_cons_succ] at hF
        refine ⟨by simp [Region.wanted, yielded, hF], 6, #[.agg #[.int .i64 s.1, .int .i64 s.2]], by go_simp, (HV1.out W).mono fun e w' ⟨he, hb⟩ => ⟨he, hR.trans (hb.mono hR.size), hb⟩⟩
      iterate 1
        refine ex_pure (c := ?_) (fun _ _ => Below.refl _ _) ?_ ?_
        rotate_left
        · intro a' W hR hF
          simp only [FactsOf, List.nil_append, List.cons_append, List.getD_cons_zero, List.getD_cons_succ, exists_eq_left, and_true, List.getElem?_toArray, List.getElem?_cons_zero, List.getElem?_cons_succ] at hF
          have m0 := (HOP.out.below' hR).cell 0
          have m1 := (HOP.out.below' hR).cell 1
          simp at m0 m1
          refine ⟨?_, ?_⟩
          · simp [Region.wanted, yielded, hF]
          · go_simp
            with_reducible rfl
      refine ex_callx (.bool g) (fun a' W hR hF => ?_) ?_
      · skip
        simp only [FactsOf, List.nil_append, List.cons_append, List.getD_cons_zero, List.getD_cons_succ, exists_eq_left, and_true, List.getElem?_toArray, List.getElem?_cons_zero, List.getElem?_cons_succ] at hF
        refine ⟨by simp [Region.wanted, yielded, hF], 5, #[.agg #[.int .i64 s.1, .int .i64 s.2]], by go_simp, (HV2.out W).mono fun e w' ⟨he, hb⟩ => ⟨he, hR.trans (hb.mono hR.size), hb⟩⟩
      iterate 3
        refine ex_pure (c := ?_) (fun _ _ => Below.refl _ _) ?_ ?_
        rotate_left
        · intro a' W hR hF
          simp only [FactsOf, List.nil_append, List.cons_append, List.getD_cons_zero, List.getD_cons_succ, exists_eq_left, and_true, List.getElem?_toArray, List.getElem?_cons_zero, List.getElem?_cons_succ] at hF
          have m0 := (HOP.out.below' hR).cell 0
          have m1 := (HOP.out.below' hR).cell 1
          simp at m0 m1
          refine ⟨?_, ?_⟩
          · simp [Region.wanted, yielded, hF]
          · go_simp
            with_reducible rfl
      refine ex_callx (.int .i64 n) (fun a' W hR hF => ?_) ?_
      · skip
        simp only [FactsOf, List.nil_append, List.cons_append, List.getD_cons_zero, List.getD_cons_succ, exists_eq_left, and_true, List.getElem?_toArray, List.getElem?_cons_zero, List.getElem?_cons_succ] at hF
        refine ⟨by simp [Region.wanted, yielded, hF], 7, #[.agg #[.int .i64 s.1, .int .i64 s.2]], by go_simp, (HV3.out W).mono fun e w' ⟨he, hb⟩ => ⟨he, hR.trans (hb.mono hR.size), hb⟩⟩
      iterate 6
        refine ex_pure (c := ?_) (fun _ _ => Below.refl _ _) ?_ ?_
        rotate_left
        · intro a' W hR hF
          simp only [FactsOf, List.nil_append, List.cons_append, List.getD_cons_zero, List.getD_cons_succ, exists_eq_left, and_true, List.getElem?_toArray, List.getElem?_cons_zero, List.getElem?_cons_succ] at hF
          have m0 := (HOP.out.below' hR).cell 0
          have m1 := (HOP.out.below' hR).cell 1
          simp at m0 m1
          refine ⟨?_, ?_⟩
          · simp [Region.wanted, yielded, hF]
          · go_simp
            with_reducible rfl
      refine ex_callx (.bool h) (fun a' W hR hF => ?_) ?_
      · skip
        simp only [FactsOf, List.nil_append, List.cons_append, List.getD_cons_zero, List.getD_cons_succ, exists_eq_left, and_true, List.getElem?_toArray, List.getElem?_cons_zero, List.getElem?_cons_succ] at hF
        refine ⟨by simp [Region.wanted, yielded, hF], 8, #[.agg #[.int .i64 s.1, .int .i64 s.2], .int .i64 c], by go_simp, (HV4.out W).mono fun e w' ⟨he, hb⟩ => ⟨he, hR.trans (hb.mono hR.size), hb⟩⟩
      iterate 16
        refine ex_pure (c := ?_) (fun _ _ => Below.refl _ _) ?_ ?_
        rotate_left
        · intro a' W hR hF
          simp only [FactsOf, List.nil_append, List.cons_append, List.getD_cons_zero, List.getD_cons_succ, exists_eq_left, and_true, List.getElem?_toArray, List.getElem?_cons_zero, List.getElem?_cons_succ] at hF
          have m0 := (HOP.out.below' hR).cell 0
          have m1 := (HOP.out.below' hR).cell 1
          simp at m0 m1
          refine ⟨?_, ?_⟩
          · simp [Region.wanted, yielded, hF]
          · go_simp
            with_reducible rfl
      show ∀ W, _ → _
      intro w4 hR2
      simp only [FinOf, List.nil_append, List.cons_append, List.getD_cons_zero, List.getD_cons_succ, forall_eq, forall_exists_index, and_imp, Nat.reduceAdd, Array.getD_eq_getD_getElem?, List.getElem?_toArray, List.getElem?_cons_zero, List.getElem?_cons_succ, Option.getD_some]
      have HB := Lib.hid hR2
      clear hR2
      go_wp2_with fail
      exact HQ.out _ _ ⟨rfl, rfl, rfl, rfl, rfl, rfl, rfl, rfl, rfl, rfl⟩ HB.out
    · have d2 : decide (s.1 ≤ c) = false := decide_eq_false k2
      obtain rfl : h = false := by
        rw [hh]; unfold Has; simp [k2]
      clear hg hn hh kn k1 k2 hs
      unfold frame
      rw [h2, h11, h12]
      clear h2 h11 h12
      conv => arg 2; whnf
      go_wp2_with fail
      refine wp_region_ex (by kernel_rfl) (fun W => Below w3.heap.size w3 W) (fun W W' => Below W.heap.size W W')
        [[(11, none)], [(60, some 0)], [(11, none)], [(62, some 2)], [(61, some 1), (63, some 3)], [(64, some 4)], [(11, none), (65, some 5)], [(65, some 5), (66, some 6)], [(12, none), (65, some 5)], [(65, some 5), (67, some 7), (68, some 8)], [(65, some 5), (69, some 9)], [(70, some 10)], [(11, none), (71, some 11)], [(2, none), (71, some 11)], [(71, some 11), (72, some 12), (73, some 13)], [(12, none), (71, some 11)], [(71, some 11), (75, some 15)], [(71, some 11), (76, some 16)], [(11, none), (77, some 17)], [(77, some 17), (78, some 18)], [(2, none), (77, some 17)], [(77, some 17), (79, some 19), (80, some 20)], [(71, some 11), (77, some 17), (81, some 21)], [(71, some 11), (82, some 22)], [(2, none), (83, some 23)], [(11, none), (83, some 23)], [(83, some 23), (85, some 25)], [(83, some 23), (84, some 24), (86, some 26)], [(71, some 11), (83, some 23), (87, some 27)], [(71, some 11), (74, some 14), (88, some 28)], [(71, some 11), (89, some 29)]]
        [none, none, none, none, none, none, none, none, none, none, none, none, none, none, none, none, none, none, none, none, none, none, none, none, none, none, none, none, none, none, none, none, none, none, none, none, none, none, none, none, none, none, none, none, none, none, none, none, none, none, none, none, none, none, none, none, none, none, none, none, some 0, some 1, some 2, some 3, some 4, some 5, some 6, some 7, some 8, some 9, some 10, some 11, some 12, some 13, some 14, some 15, some 16, some 17, some 18, some 19, some 20, some 21, some 22, some 23, some 24, some 25, some 26, some 27, some 28, some 29, some 30, none, none, none, none, none, none, none, none, none, none, none, none, none, none, none, none, none, none, none, none, none, none, none, none, none, none, none, none, none, none, none, none, none, none, none, none, none, none, none, none, none, none, none, none, none, none, none, none, none, none, none, none, none, none, none, none, none, none, none, none, none, none, none, none, none, none, none, none, none, none, none, none, none, none, none, none, none, none, none, none, none, none, none, none, none, none, none, none, none, none, none, none, none, none, none, none, none, none, none, none, none, none, none, none, none, none, none, none, none, none, none, none, none, none, none, none, none, none, none, none, none, none, none, none, none, none, none, none, none, none, none, none, none, none, none, none, none, none, none, none, none, none, none, none, none, none, none, none, none, none, none, none, none, none, none, none, none, none, none, none, none, none, none, none, none, none, none, none, none, none, none, none, none, none, none, none, none, none, none, none, none, none, none, none, none, none, none, none, none, none, none, none, none, none, none, none, none] (by kernel_rfl) (by kernel_rfl) ((Below.refl _ _).drew) ?_
      iterate 1
        refine ex_pure (c := ?_) (fun _ _ => Below.refl _ _) ?_ ?_
        rotate_left
        · intro a' W hR hF
          simp only [FactsOf, List.nil_append, List.cons_append, List.getD_cons_zero, List.getD_cons_succ, exists_eq_left, and_true, List.getElem?_toArray, List.getElem?_cons_zero, List.getElem?_cons_succ] at hF
          have m0 := (HOP.out.below' hR).cell 0
          have m1 := (HOP.out.below' hR).cell 1
          simp at m0 m1
          refine ⟨?_, ?_⟩
          · simp [Region.wanted, yielded, hF]
          · go_simp
            with_reducible rfl
      refine ex_callx (.bool g) (fun a' W hR hF => ?_) ?_
      · skip
        simp only [FactsOf, List.nil_append, List.cons_append, List.getD_cons_zero, List.getD_cons_succ, exists_eq_left, and_true, List.getElem?_toArray, List.getElem?_cons_zero, List.getElem?_cons_succ] at hF
        refine ⟨by simp [Region.wanted, yielded, hF], 6, #[.agg #[.int .i64 s.1, .int .i64 s.2]], by go_simp, (HV1.out W).mono fun e w' ⟨he, hb⟩ => ⟨he, hR.trans (hb.mono hR.size), hb⟩⟩
      iterate 1
        refine ex_pure (c := ?_) (fun _ _ => Below.refl _ _) ?_ ?_
        rotate_left
        · intro a' W hR hF
          simp only [FactsOf, List.nil_append, List.cons_append, List.getD_cons_zero, List.getD_cons_succ, exists_eq_left, and_true, List.getElem?_toArray, List.getElem?_cons_zero, List.getElem?_cons_succ] at hF
          have m0 := (HOP.out.below' hR).cell 0
          have m1 := (HOP.out.below' hR).cell 1
          simp at m0 m1
          refine ⟨?_, ?_⟩
          · simp [Region.wanted, yielded, hF]
          · go_simp
            with_reducible rfl
      refine ex_callx (.bool g) (fun a' W hR hF => ?_) ?_
      · skip
        simp only [FactsOf, List.nil_append, List.cons_append, List.getD_cons_zero, List.getD_cons_succ, exists_eq_left, and_true, List.getElem?_toArray, List.getElem?_cons_zero, List.getElem?_cons_succ] at hF
        refine ⟨by simp [Region.wanted, yielded, hF], 5, #[.agg #[.int .i64 s.1, .int .i64 s.2]], by go_simp, (HV2.out W).mono fun e w' ⟨he, hb⟩ => ⟨he, hR.trans (hb.mono hR.size), hb⟩⟩
      iterate 3
        refine ex_pure (c := ?_) (fun _ _ => Below.refl _ _) ?_ ?_
        rotate_left
        · intro a' W hR hF
          simp only [FactsOf, List.nil_append, List.cons_append, List.getD_cons_zero, List.getD_cons_succ, exists_eq_left, and_true, List.getElem?_toArray, List.getElem?_cons_zero, List.getElem?_cons_succ] at hF
          have m0 := (HOP.out.below' hR).cell 0
          have m1 := (HOP.out.below' hR).cell 1
          simp at m0 m1
          refine ⟨?_, ?_⟩
          · simp [Region.wanted, yielded, hF]
          · go_simp
            with_reducible rfl
      refine ex_callx (.int .i64 n) (fun a' W hR hF => ?_) ?_
      · skip
        simp only [FactsOf, List.nil_append, List.cons_append, List.getD_cons_zero, List.getD_cons_succ, exists_eq_left, and_true, List.getElem?_toArray, List.getElem?_cons_zero, List.getElem?_cons_succ] at hF
        refine ⟨by simp [Region.wanted, yielded, hF], 7, #[.agg #[.int .i64 s.1, .int .i64 s.2]], by go_simp, (HV3.out W).mono fun e w' ⟨he, hb⟩ => ⟨he, hR.trans (hb.mono hR.size), hb⟩⟩
      iterate 6
        refine ex_pure (c := ?_) (fun _ _ => Below.refl _ _) ?_ ?_
        rotate_left
        · intro a' W hR hF
          simp only [FactsOf, List.nil_append, List.cons_append, List.getD_cons_zero, List.getD_cons_succ, exists_eq_left, and_true, List.getElem?_toArray, List.getElem?_cons_zero, List.getElem?_cons_succ] at hF
          have m0 := (HOP.out.below' hR).cell 0
          have m1 := (HOP.out.below' hR).cell 1
          simp at m0 m1
          refine ⟨?_, ?_⟩
          · simp [Region.wanted, yielded, hF]
          · go_simp
            with_reducible rfl
      refine ex_callx (.bool false) (fun a' W hR hF => ?_) ?_
      · skip
        simp only [FactsOf, List.nil_append, List.cons_append, List.getD_cons_zero, List.getD_cons_succ, exists_eq_left, and_true, List.getElem?_toArray, List.getElem?_cons_zero, List.getElem?_cons_succ] at hF
        refine ⟨by simp [Region.wanted, yielded, hF], 8, #[.agg #[.int .i64 s.1, .int .i64 s.2], .int .i64 c], by go_simp, (HV4.out W).mono fun e w' ⟨he, hb⟩ => ⟨he, hR.trans (hb.mono hR.size), hb⟩⟩
      iterate 9
        refine ex_pure (c := ?_) (fun _ _ => Below.refl _ _) ?_ ?_
        rotate_left
        · intro a' W hR hF
          simp only [FactsOf, List.nil_append, List.cons_append, List.getD_cons_zero, List.getD_cons_succ, exists_eq_left, and_true, List.getElem?_toArray, List.getElem?_cons_zero, List.getElem?_cons_succ] at hF
          have m0 := (HOP.out.below' hR).cell 0
          have m1 := (HOP.out.below' hR).cell 1
          simp at m0 m1
          refine ⟨?_, ?_⟩
          · simp [Region.wanted, yielded, hF]
          · go_simp
            with_reducible rfl
      iterate 4
        refine ex_skip (fun _ _ => Below.refl _ _) ?_ ?_
        · intro a' W hR hF
          simp only [FactsOf, List.nil_append, List.cons_append, List.getD_cons_zero, List.getD_cons_succ, exists_eq_left, and_true, List.getElem?_toArray, List.getElem?_cons_zero, List.getElem?_cons_succ] at hF
          simp [Region.wanted, yielded, hF]
      iterate 3
        refine ex_pure (c := ?_) (fun _ _ => Below.refl _ _) ?_ ?_
        rotate_left
        · intro a' W hR hF
          simp only [FactsOf, List.nil_append, List.cons_append, List.getD_cons_zero, List.getD_cons_succ, exists_eq_left, and_true, List.getElem?_toArray, List.getElem?_cons_zero, List.getElem?_cons_succ] at hF
          refine ⟨?_, ?_⟩
          · simp [Region.wanted, yielded, hF]
          · go_simp
            with_reducible rfl
      show ∀ W, _ → _
      intro w4 hR2
      simp only [FinOf, List.nil_append, List.cons_append, List.getD_cons_zero, List.getD_cons_succ, forall_eq, forall_exists_index, and_imp, Nat.reduceAdd, Array.getD_eq_getD_getElem?, List.getElem?_toArray, List.getElem?_cons_zero, List.getElem?_cons_succ, Option.getD_some]
      have HB := Lib.hid hR2
      clear hR2
      go_wp2_with fail
      exact HQ.out _ _ ⟨rfl, rfl, rfl, rfl, rfl, rfl, rfl, rfl, rfl, rfl⟩ HB.out
  · have kn : n = 0 := by rw [hn]; unfold lenS; rw [if_neg k1]
    have d1 : decide (n > 0) = false := decide_eq_false (by rw [kn]; omega)
    obtain rfl : h = false := by
      rw [hh]; unfold Has; simp [k1]
    clear hg hn hh kn k1 hs
    unfold frame
    rw [h2, h11, h12]
    clear h2 h11 h12
    conv => arg 2; whnf
    go_wp2_with fail
    refine wp_region_ex (by kernel_rfl) (fun W => Below w3.heap.size w3 W) (fun W W' => Below W.heap.size W W')
      [[(11, none)], [(60, some 0)], [(11, none)], [(62, some 2)], [(61, some 1), (63, some 3)], [(64, some 4)], [(11, none), (65, some 5)], [(65, some 5), (66, some 6)], [(12, none), (65, some 5)], [(65, some 5), (67, some 7), (68, some 8)], [(65, some 5), (69, some 9)], [(70, some 10)], [(11, none), (71, some 11)], [(2, none), (71, some 11)], [(71, some 11), (72, some 12), (73, some 13)], [(12, none), (71, some 11)], [(71, some 11), (75, some 15)], [(71, some 11), (76, some 16)], [(11, none), (77, some 17)], [(77, some 17), (78, some 18)], [(2, none), (77, some 17)], [(77, some 17), (79, some 19), (80, some 20)], [(71, some 11), (77, some 17), (81, some 21)], [(71, some 11), (82, some 22)], [(2, none), (83, some 23)], [(11, none), (83, some 23)], [(83, some 23), (85, some 25)], [(83, some 23), (84, some 24), (86, some 26)], [(71, some 11), (83, some 23), (87, some 27)], [(71, some 11), (74, some 14), (88, some 28)], [(71, some 11), (89, some 29)]]
      [none, none, none, none, none, none, none, none, none, none, none, none, none, none, none, none, none, none, none, none, none, none, none, none, none, none, none, none, none, none, none, none, none, none, none, none, none, none, none, none, none, none, none, none, none, none, none, none, none, none, none, none, none, none, none, none, none, none, none, none, some 0, some 1, some 2, some 3, some 4, some 5, some 6, some 7, some 8, some 9, some 10, some 11, some 12, some 13, some 14, some 15, some 16, some 17, some 18, some 19, some 20, some 21, some 22, some 23, some 24, some 25, some 26, some 27, some 28, some 29, some 30, none, none, none, none, none, none, none, none, none, none, none, none, none, none, none, none, none, none, none, none, none, none, none, none, none, none, none, none, none, none, none, none, none, none, none, none, none, none, none, none, none, none, none, none, none, none, none, none, none, none, none, none, none, none, none, none, none, none, none, none, none, none, none, none, none, none, none, none, none, none, none, none, none, none, none, none, none, none, none, none, none, none, none, none, none, none, none, none, none, none, none, none, none, none, none, none, none, none, none, none, none, none, none, none, none, none, none, none, none, none, none, none, none, none, none, none, none, none, none, none, none, none, none, none, none, none, none, none, none, none, none, none, none, none, none, none, none, none, none, none, none, none, none, none, none, none, none, none, none, none, none, none, none, none, none, none, none, none, none, none, none, none, none, none, none, none, none, none, none, none, none, none, none, none, none, none, none, none, none, none, none, none, none, none, none, none, none, none, none, none, none, none, none, none, none, none, none] (by kernel_rfl) (by kernel_rfl) ((Below.refl _ _).drew) ?_
    iterate 1
      refine ex_pure (c := ?_) (fun _ _ => Below.refl _ _) ?_ ?_
      rotate_left
      · intro a' W hR hF
        simp only [FactsOf, List.nil_append, List.cons_append, List.getD_cons_zero, List.getD_cons_succ, exists_eq_left, and_true, List.getElem?_toArray, List.getElem?_cons_zero, List.getElem?_cons_succ] at hF
        have m0 := (HOP.out.below' hR).cell 0
        have m1 := (HOP.out.below' hR).cell 1
        simp at m0 m1
        refine ⟨?_, ?_⟩
        · simp [Region.wanted, yielded, hF]
        · go_simp
          with_reducible rfl
    refine ex_callx (.bool g) (fun a' W hR hF => ?_) ?_
    · skip
      simp only [FactsOf, List.nil_append, List.cons_append, List.getD_cons_zero, List.getD_cons_succ, exists_eq_left, and_true, List.getElem?_toArray, List.getElem?_cons_zero, List.getElem?_cons_succ] at hF
      refine ⟨by simp [Region.wanted, yielded, hF], 6, #[.agg #[.int .i64 s.1, .int .i64 s.2]], by go_simp, (HV1.out W).mono fun e w' ⟨he, hb⟩ => ⟨he, hR.trans (hb.mono hR.size), hb⟩⟩
    iterate 1
      refine ex_pure (c := ?_) (fun _ _ => Below.refl _ _) ?_ ?_
      rotate_left
      · intro a' W hR hF
        simp only [FactsOf, List.nil_append, List.cons_append, List.getD_cons_zero, List.getD_cons_succ, exists_eq_left, and_true, List.getElem?_toArray, List.getElem?_cons_zero, List.getElem?_cons_succ] at hF
        have m0 := (HOP.out.below' hR).cell 0
        have m1 := (HOP.out.below' hR).cell 1
        simp at m0 m1
        refine ⟨?_, ?_⟩
        · simp [Region.wanted, yielded, hF]
        · go_simp
          with_reducible rfl
    refine ex_callx (.bool g) (fun a' W hR hF => ?_) ?_
    · skip
      simp only [FactsOf, List.nil_append, List.cons_append, List.getD_cons_zero, List.getD_cons_succ, exists_eq_left, and_true, List.getElem?_toArray, List.getElem?_cons_zero, List.getElem?_cons_succ] at hF
      refine ⟨by simp [Region.wanted, yielded, hF], 5, #[.agg #[.int .i64 s.1, .int .i64 s.2]], by go_simp, (HV2.out W).mono fun e w' ⟨he, hb⟩ => ⟨he, hR.trans (hb.mono hR.size), hb⟩⟩
    iterate 3
      refine ex_pure (c := ?_) (fun _ _ => Below.refl _ _) ?_ ?_
      rotate_left
      · intro a' W hR hF
        simp only [FactsOf, List.nil_append, List.cons_append, List.getD_cons_zero, List.getD_cons_succ, exists_eq_left, and_true, List.getElem?_toArray, List.getElem?_cons_zero, List.getElem?_cons_succ] at hF
        have m0 := (HOP.out.below' hR).cell 0
        have m1 := (HOP.out.below' hR).cell 1
        simp at m0 m1
        refine ⟨?_, ?_⟩
        · simp [Region.wanted, yielded, hF]
        · go_simp
          with_reducible rfl
    refine ex_callx (.int .i64 n) (fun a' W hR hF => ?_) ?_
    · skip
      simp only [FactsOf, List.nil_append, List.cons_append, List.getD_cons_zero, List.getD_cons_succ, exists_eq_left, and_true, List.getElem?_toArray, List.getElem?_cons_zero, List.getElem?_cons_succ] at hF
      refine ⟨by simp [Region.wanted, yielded, hF], 7, #[.agg #[.int .i64 s.1, .int .i64 s.2]], by go_simp, (HV3.out W).mono fun e w' ⟨he, hb⟩ => ⟨he, hR.trans (hb.mono hR.size), hb⟩⟩
    iterate 6
      refine ex_pure (c := ?_) (fun _ _ => Below.refl _ _) ?_ ?_
      rotate_left
      · intro a' W hR hF
        simp only [FactsOf, List.nil_append, List.cons_append, List.getD_cons_zero, List.getD_cons_succ, exists_eq_left, and_true, List.getElem?_toArray, List.getElem?_cons_zero, List.getElem?_cons_succ] at hF
        have m0 := (HOP.out.below' hR).cell 0
        have m1 := (HOP.out.below' hR).cell 1
        simp at m0 m1
        refine ⟨?_, ?_⟩
        · simp [Region.wanted, yielded, hF]
        · go_simp
          with_reducible rfl
    refine ex_callx (.bool false) (fun a' W hR hF => ?_) ?_
    · skip
      simp only [FactsOf, List.nil_append, List.cons_append, List.getD_cons_zero, List.getD_cons_succ, exists_eq_left, and_true, List.getElem?_toArray, List.getElem?_cons_zero, List.getElem?_cons_succ] at hF
      refine ⟨by simp [Region.wanted, yielded, hF], 8, #[.agg #[.int .i64 s.1, .int .i64 s.2], .int .i64 c], by go_simp, (HV4.out W).mono fun e w' ⟨he, hb⟩ => ⟨he, hR.trans (hb.mono hR.size), hb⟩⟩
    iterate 3
      refine ex_pure (c := ?_) (fun _ _ => Below.refl _ _) ?_ ?_
      rotate_left
      · intro a' W hR hF
        simp only [FactsOf, List.nil_append, List.cons_append, List.getD_cons_zero, List.getD_cons_succ, exists_eq_left, and_true, List.getElem?_toArray, List.getElem?_cons_zero, List.getElem?_cons_succ] at hF
        refine ⟨?_, ?_⟩
        · simp [Region.wanted, yielded, hF]
        · go_simp
          with_reducible rfl
    iterate 4
      refine ex_skip (fun _ _ => Below.refl _ _) ?_ ?_
      · intro a' W hR hF
        simp only [FactsOf, List.nil_append, List.cons_append, List.getD_cons_zero, List.getD_cons_succ, exists_eq_left, and_true, List.getElem?_toArray, List.getElem?_cons_zero, List.getElem?_cons_succ] at hF
        simp [Region.wanted, yielded, hF]
    iterate 2
      refine ex_pure (c := ?_) (fun _ _ => Below.refl _ _) ?_ ?_
      rotate_left
      · intro a' W hR hF
        simp only [FactsOf, List.nil_append, List.cons_append, List.getD_cons_zero, List.getD_cons_succ, exists_eq_left, and_true, List.getElem?_toArray, List.getElem?_cons_zero, List.getElem?_cons_succ] at hF
        refine ⟨?_, ?_⟩
        · simp [Region.wanted, yielded, hF]
        · go_simp
          with_reducible rfl
    iterate 4
      refine ex_skip (fun _ _ => Below.refl _ _) ?_ ?_
      · intro a' W hR hF
        simp only [FactsOf, List.nil_append, List.cons_append, List.getD_cons_zero, List.getD_cons_succ, exists_eq_left, and_true, List.getElem?_toArray, List.getElem?_cons_zero, List.getElem?_cons_succ] at hF
        simp [Region.wanted, yielded, hF]
    iterate 3
      refine ex_pure (c := ?_) (fun _ _ => Below.refl _ _) ?_ ?_
      rotate_left
      · intro a' W hR hF
        simp only [FactsOf, List.nil_append, List.cons_append, List.getD_cons_zero, List.getD_cons_succ, exists_eq_left, and_true, List.getElem?_toArray, List.getElem?_cons_zero, List.getElem?_cons_succ] at hF
        refine ⟨?_, ?_⟩
        · simp [Region.wanted, yielded, hF]
        · go_simp
          with_reducible rfl
    show ∀ W, _ → _
    intro w4 hR2
    simp only [FinOf, List.nil_append, List.cons_append, List.getD_cons_zero, List.getD_cons_succ, forall_eq, forall_exists_index, and_imp, Nat.reduceAdd, Array.getD_eq_getD_getElem?, List.getElem?_toArray, List.getElem?_cons_zero, List.getElem?_cons_succ, Option.getD_some]
    have HB := Lib.hid hR2
    clear hR2
    go_wp2_with fail
    exact HQ.out _ _ ⟨rfl, rfl, rfl, rfl, rfl, rfl, rfl, rfl, rfl, rfl⟩ HB.out
theorem tail1_any (f : Nat → Value) (w3 : World) (ob : Nat) (s : S) (A : Option Addr) (cap : Nat) (l : List S) (hl : l.length ≤ 40) (hop : Sits w3 ob 43 #[.int .i64 s.1, .int .i64 s.2]) (hL : Spans w3 (.slice A l.length cap) l) (hcap : (cap : Int) ≤ 9223372036854775807) (hlc : l.length ≤ cap) (Q : Exit → Act → World → Prop)
    (h1 : f 1 = .slice A l.length cap) (h11 : f 11 = .pointer (some ⟨ob, 0, none⟩))
    (hQ : ∀ a' w', Keep1 (f 0) (.slice A l.length cap) (f 2) (f 3) (f 9) (f 10) (.pointer (some ⟨ob, 0, none⟩)) (.int .i64 l.length) a' → Below w3.heap.size w3 w' → Q .normal a' w') :
    Code.wp Tryz.prog tail1L Q ⟨frame f, []⟩ w3 := by
  have HQ := Lib.hid hQ
  have HOP := Lib.hid hop
  have HSL := Lib.hid hL
  have HL := Lib.hid (And.intro hl (And.intro hcap hlc))
  clear hQ hop hL hl hcap hlc
  unfold frame
  rw [h1, h11]
  clear h1 h11
  rw [tail1_split]
  conv => arg 2; arg 1; whnf
  go_wp2_with fail
  refine pairs_loop (f 0) (f 2) (f 3) (f 9) (f 10) _ w3 ob s A cap l HL.out.1 HOP.out HSL.out HL.out.2.1 HL.out.2.2 _ ⟨rfl, rfl, rfl, rfl, rfl, rfl, rfl, rfl, rfl, rfl⟩ ?_
  intro a' w' hk hb
  exact HQ.out a' w' hk hb
/-- What the first loop's round leaves of a frame. -/
def Head0 (v0 v1 v2 v3 v9 v10 : Value) (a' : Act) : Prop :=
  a'.defers = [] ∧ a'.tmps.size = 288 ∧ a'.tmps.getD 0 undef = v0 ∧ a'.tmps.getD 1 undef = v1 ∧ a'.tmps.getD 2 undef = v2 ∧ a'.tmps.getD 3 undef = v3 ∧ a'.tmps.getD 9 undef = v9 ∧ a'.tmps.getD 10 undef = v10
theorem next1_any (f : Nat → Value) (wr : World) (i : Nat) (hi : i < 100) (Q : Exit → Act → World → Prop) (h10 : f 10 = .int .i64 i)
    (hQ : ∀ a', Head0 (f 0) (f 1) (f 2) (f 3) (f 9) (.int .i64 (i + 1 : Nat)) a' → Q .normal a' wr) : Code.wp Tryz.prog next1L Q ⟨frame f, []⟩ wr := by
  have HQ := Lib.hid hQ
  clear hQ
  unfold frame
  rw [h10]
  clear h10
  conv => arg 2; whnf
  go_wp2_with fail
  exact HQ.out _ ⟨rfl, rfl, rfl, rfl, rfl, rfl, rfl, rfl⟩
theorem mid1_open {Q : Exit → Act → World → Prop} {a : Act} {w : World} (hd : a.defers = []) (hs : a.tmps.size = 288) (h : Code.wp Tryz.prog mid1L Q ⟨frame fun n => a.tmps.getD n undef, []⟩ w) : Code.wp Tryz.prog mid1L Q a w := by
  rw [open_act a hd hs]
  exact h
theorem one_round (f : Nat → Value) (wr : World) (A0 A1 : Option Addr) (c0 c1 : Nat) (a b : List S) (c : Int) (i : Nat) (hi : i < a.length) (ha : a.length ≤ 40) (hb : b.length ≤ 40) (hA : Spans wr (.slice A0 a.length c0) a) (hB : Spans wr (.slice A1 b.length c1) b) (hs : ∀ s ∈ a, s.2 ≤ top) (Q : Exit → Act → World → Prop)
    (h0 : f 0 = .slice A0 a.length c0) (h1 : f 1 = .slice A1 b.length c1) (h2 : f 2 = .int .i64 c) (h10 : f 10 = .int .i64 i)
    (hQ : ∀ a' w', Head0 (.slice A0 a.length c0) (.slice A1 b.length c1) (.int .i64 c) (f 3) (f 9) (.int .i64 (i + 1 : Nat)) a' → Below wr.heap.size wr w' → Q .normal a' w') :
    Code.wp Tryz.prog body1L Q ⟨frame f, []⟩ wr := by
  obtain ⟨A, cap, e, hx1, hx2, hat⟩ := Spans.read hA
  simp only [Value.slice.injEq, true_and] at e
  obtain ⟨rfl, rfl⟩ := e
  obtain ⟨A, cap, e, hy1, hy2, -⟩ := Spans.read hB
  simp only [Value.slice.injEq, true_and] at e
  obtain ⟨rfl, rfl⟩ := e
  obtain ⟨b1, o, rfl, hbw, q0, q1⟩ := hat i hi
  obtain ⟨s, hse⟩ : ∃ s, s = a[i] := ⟨_, rfl⟩
  have hst := hs a[i] (List.getElem_mem hi)
  rw [← hse] at q0 q1 hst
  have d3 : decide ((i : Int) < (a.length : Int)) = true := by simp; omega
  have hin : (i : Int) < (a.length : Int) := by omega
  have hlI : (a.length : Int) ≤ (c0 : Int) := by omega
  have hop := Sits.fresh wr 43 #[.int .i64 s.1, .int .i64 s.2]
  have hlow : Below wr.heap.size wr (wr.alloc (.cells #[.int .i64 s.1, .int .i64 s.2] 43)) := (Below.refl _ _).alloc (Nat.le_refl _) _
  obtain ⟨w3, hw3⟩ : ∃ w3, w3 = wr.alloc (.cells #[.int .i64 s.1, .int .i64 s.2] 43) := ⟨_, rfl⟩
  obtain ⟨ob, hob⟩ : ∃ ob, ob = wr.heap.size := ⟨_, rfl⟩
  rw [← hw3] at hop hlow
  rw [← hob] at hop
  have hval : ∀ W : World, Calls Tryz.prog 5 #[.agg #[.int .i64 s.1, .int .i64 s.2]] W fun e w' => e = .returned (.bool (decide (Ok s))) ∧ ∃ q os, w' = Sort.grow (W.drewN q) os := refvalid_any s
  obtain ⟨n, hn⟩ : ∃ n, n = lenS s := ⟨_, rfl⟩
  have o0 := hop.cell 0
  have o1 := hop.cell 1
  simp at o0 o1
  have HOP := Lib.hid hop
  have HLOW := Lib.hid hlow
  have HQ := Lib.hid hQ
  have HSB := Lib.hid hB
  have HL := Lib.hid (And.intro hb (And.intro hy2 (And.intro hy1 (And.intro hst (show i < 100 by omega)))))
  clear hQ hop hlow hat hA hB hs hse hbw hx1 hx2 hy1 hy2 ha hb hi
  unfold frame
  rw [h0, h1, h2, h10]
  clear h0 h1 h2 h10
  rw [body1_split]
  rw [hw3, hob] at o0 o1
  conv => arg 2; arg 1; whnf
  conv => arg 2; arg 2; arg 1; arg 2; arg 1; whnf
  conv => arg 2; arg 2; arg 1; arg 2; arg 2; arg 1; whnf
  conv => arg 2; arg 2; arg 1; arg 2; arg 2; arg 2; arg 1; whnf
  by_cases k1 : Ok s
  · have dk : decide (Ok s) = true := decide_eq_true k1
    rw [dk] at hval
    have HVAL := Lib.hid hval
    have e1 : IntKind.i64.wrap (s.2 - s.1) = n := by
      rw [hn]; unfold lenS; rw [if_pos k1]
      have := HL.out.2.2.2.1
      unfold Ok top at *
      rw [IntWalk.i64_in _ (by omega)]
    have HN := Lib.hid hn
    clear hval dk k1 hn
    go_wp2_with fail
    rw [← hw3, ← hob]
    clear hw3 hob o0 o1 q0 q1
    refine (HVAL.out _).mono ?_
    rintro e w4 ⟨rfl, hgr⟩
    have H4 := Lib.hid (HOP.out.below' (grown_below hgr))
    have HB4 := Lib.hid (HLOW.out.trans ((grown_below hgr).mono HLOW.out.size))
    have o0 := H4.out.cell 0
    have o1 := H4.out.cell 1
    simp at o0 o1
    clear hgr
    go_wp2_with fail
    rename_i K1 hK1 K2 hK2
    refine mid1_open rfl rfl ?_
    refine mid1_any _ w4 ob s c _ H4.out HL.out.2.2.2.1 rfl rfl (congrArg (Value.int .i64) HN.out) ?_
    intro a1 w1 hk1 hb1
    refine hK2 a1 w1 ?_
    obtain ⟨hd, hsz, k0, k1, k2, k3, k9, k10, k11, k13⟩ := hk1
    rw [open_act a1 hd hsz]
    refine tail1_any (fun n => a1.tmps.getD n undef) w1 ob s A1 c1 b HL.out.1 (H4.out.below' hb1) (HSB.out.below (HB4.out.trans (hb1.mono HB4.out.size))) HL.out.2.1 HL.out.2.2.1 _ k1 k11 ?_
    intro a2 w2 hk2 hb2
    refine hK1 a2 w2 ?_
    obtain ⟨hd2, hsz2, m0, m1, m2, m3, m9, m10, m11, m13⟩ := hk2
    rw [open_act a2 hd2 hsz2]
    refine next1_any (fun n => a2.tmps.getD n undef) w2 i HL.out.2.2.2.2 Q (m10.trans k10) ?_
    intro a4 hH
    simp only [m0, m1, m2, m3, m9, k0, k2, k3, k9] at hH
    exact HQ.out a4 w2 hH (HB4.out.trans ((hb1.trans (hb2.mono hb1.size)).mono HB4.out.size))
  · have dk : decide (Ok s) = false := decide_eq_false k1
    rw [dk] at hval
    have HVAL := Lib.hid hval
    have hn0 : n = 0 := by rw [hn]; unfold lenS; rw [if_neg k1]
    have HN := Lib.hid (hn0.symm.trans hn)
    clear hval dk k1 hn
    go_wp2_with fail
    rw [← hw3, ← hob]
    clear hw3 hob o0 o1 q0 q1
    refine (HVAL.out _).mono ?_
    rintro e w4 ⟨rfl, hgr⟩
    have H4 := Lib.hid (HOP.out.below' (grown_below hgr))
    have HB4 := Lib.hid (HLOW.out.trans ((grown_below hgr).mono HLOW.out.size))
    clear hgr
    go_wp2_with fail
    rename_i K1 hK1 K2 hK2
    refine mid1_open rfl rfl ?_
    refine mid1_any _ w4 ob s c _ H4.out HL.out.2.2.2.1 rfl rfl (congrArg (Value.int .i64) HN.out) ?_
    intro a1 w1 hk1 hb1
    refine hK2 a1 w1 ?_
    obtain ⟨hd, hsz, k0, k1, k2, k3, k9, k10, k11, k13⟩ := hk1
    rw [open_act a1 hd hsz]
    refine tail1_any (fun n => a1.tmps.getD n undef) w1 ob s A1 c1 b HL.out.1 (H4.out.below' hb1) (HSB.out.below (HB4.out.trans (hb1.mono HB4.out.size))) HL.out.2.1 HL.out.2.2.1 _ k1 k11 ?_
    intro a2 w2 hk2 hb2
    refine hK1 a2 w2 ?_
    obtain ⟨hd2, hsz2, m0, m1, m2, m3, m9, m10, m11, m13⟩ := hk2
    rw [open_act a2 hd2 hsz2]
    refine next1_any (fun n => a2.tmps.getD n undef) w2 i HL.out.2.2.2.2 Q (m10.trans k10) ?_
    intro a4 hH
    simp only [m0, m1, m2, m3, m9, k0, k2, k3, k9] at hH
    exact HQ.out a4 w2 hH (HB4.out.trans ((hb1.trans (hb2.mono hb1.size)).mono HB4.out.size))
/-- No more spans. -/
theorem one_last (f : Nat → Value) (w3 : World) (A : Option Addr) (n cap : Nat) (Q : Exit → Act → World → Prop) (h0 : f 0 = .slice A n cap) (h10 : f 10 = .int .i64 n)
    (hQ : ∀ a', Head0 (.slice A n cap) (f 1) (f 2) (f 3) (f 9) (.int .i64 n) a' → Q (.exit 0) a' w3) : Code.wp Tryz.prog body1L Q ⟨frame f, []⟩ w3 := by
  have HQ := Lib.hid hQ
  clear hQ
  unfold frame
  rw [h0, h10]
  clear h0 h10
  rw [body1_split]
  conv => arg 2; arg 1; whnf
  go_wp2_with fail
  exact HQ.out _ ⟨rfl, rfl, rfl, rfl, rfl, rfl, rfl, rfl⟩
theorem ones_loop (v3 v9 : Value) (a0 : Act) (w3 : World) (A0 A1 : Option Addr) (c0 c1 : Nat) (a b : List S) (c : Int) (ha : a.length ≤ 40) (hb : b.length ≤ 40) (hA : Spans w3 (.slice A0 a.length c0) a) (hB : Spans w3 (.slice A1 b.length c1) b) (hs : ∀ s ∈ a, s.2 ≤ top) (Q : Exit → Act → World → Prop)
    (hK : Head0 (.slice A0 a.length c0) (.slice A1 b.length c1) (.int .i64 c) v3 v9 (.int .i64 (0 : Nat)) a0)
    (hQ : ∀ a' w', Head0 (.slice A0 a.length c0) (.slice A1 b.length c1) (.int .i64 c) v3 v9 (.int .i64 a.length) a' → Below w3.heap.size w3 w' → Q (.exit 0) a' w') :
    Code.wp Tryz.prog (.loop body1L) Q a0 w3 := by
  refine wp_loop (fun a' w' => ∃ j : Nat, j ≤ a.length ∧ Head0 (.slice A0 a.length c0) (.slice A1 b.length c1) (.int .i64 c) v3 v9 (.int .i64 j) a' ∧ Below w3.heap.size w3 w') (fun a' _ => a.length - (intOf (a'.tmps.getD 10 undef)).toNat) ⟨0, Nat.zero_le _, hK, Below.refl _ _⟩ ?_
  rintro a' w' ⟨j, hj, hK', hBw⟩
  obtain ⟨hd, hsz, g0, g1, g2, g3, g9, g10⟩ := hK'
  have hm : a.length - (intOf (a'.tmps.getD 10 undef)).toNat = a.length - j := by rw [g10]; simp [intOf]
  simp only [hm]
  rw [open_act a' hd hsz]
  rcases Nat.lt_or_ge j a.length with hlt | hge
  · refine one_round (fun n => a'.tmps.getD n undef) w' A0 A1 c0 c1 a b c j hlt ha hb (hA.below hBw) (hB.below hBw) hs _ g0 g1 g2 g10 ?_
    intro a'' w'' hK'' hB''
    have hk10 := hK''.2.2.2.2.2.2.2
    simp only [g3, g9] at hK''
    refine ⟨⟨j + 1, hlt, hK'', hBw.trans (hB''.mono hBw.size)⟩, ?_⟩
    rw [hk10]
    simp [intOf]
    omega
  · obtain rfl : j = a.length := by omega
    refine one_last (fun n => a'.tmps.getD n undef) w' A0 a.length c0 _ g0 g10 (fun a'' h'' => ?_)
    simp only [g1, g2, g3, g9] at h''
    exact hQ a'' w' h'' hBw
end Go.Proofs.YtehnobcjoaclcaaGreat
