/- The statement HeapSorts of package heap: what is taken late enough comes by its times, and of one time as it was put; it holds of every list of ints. -/
import Derived.Test.YtiacnmmhmnpieaaHAlive
import Derived.Test.YtiacnmmhmnpieaaHBuilt
import Derived.Test.YtiacnmmhmnpieaaInts
import Derived.Test.YtiacnmmhmnpieaaBase
import Derived.OpenShut
import Derived.ChangeOld
import Derived.Test.YtiacnmmhmnpieaaTail
namespace Go.Proofs.Ytiacnmmhmnpieaa
open Go Go.RowKit Go.ChangeShapes Go.WideShapes Go.ChangeAt HeapP
set_option maxRecDepth 100000
set_option maxHeartbeats 4000000
set_option linter.unusedSimpArgs false

def placeV (j : Nat) : Int := j
theorem heapSorts_walk (v : Value) (l : List Int) (w : World) (hv : (∀ x ∈ l, i64ok x) ∧ Ints w v l) :
    Calls Try.prog 4 #[v] w fun e w' => e = .returned (.bool true) ∧ Below w.heap.size w w' := by
  obtain ⟨A, cap, rfl, h1, h2, h3⟩ := hv.2.one_
  have hok := hv.1
  clear hv
  have hlen : (l.length : Int) ≤ 9223372036854775807 := by omega
  by_cases hl : l.length ≤ 100
  · have d1 : decide (100 < (l.length : Int)) = false := by simp; omega
    have HL := Lib.hid hl
    obtain ⟨t, ht⟩ : ∃ t : Nat → Int, t = fun j => l.getD j 0 := ⟨_, rfl⟩
    have H3 : Hid (∀ i, i < l.length → ∃ b o, A = some ⟨b, o, none⟩ ∧ b < w.heap.size ∧ w.cell? ⟨b, o + i, none⟩ = some (.int .i64 (t i))) := Lib.hid (fun i hi => by
      obtain ⟨b, o, e, hb, hc⟩ := h3 i hi
      refine ⟨b, o, e, hb, ?_⟩
      rw [hc, ht]; simp [List.getD_eq_getElem?_getD, hi])
    have HOK : Hid (∀ i, i < l.length → i64ok (t i)) := Lib.hid (fun i hi => by rw [ht]; simp only [List.getD_eq_getElem?_getD, List.getElem?_eq_getElem hi, Option.getD_some]; exact hok _ (List.getElem_mem hi))
    clear h3 hok hl ht
    generalize l.length = len at *
    go_enter Try.func4, Try.ntmps4
    go_wp2_with fail
    refine (newI_any w).mono ?_
    rintro e w1 ⟨hb, rfl, hH, hB⟩
    have H1 := Lib.hid hH
    have B1 := Lib.hid hB
    clear hH hB
    go_wp2_with fail
    go_loopw [4] (fun i wr => ∃ k : Nat, k ≤ len ∧ i = .int .i64 k ∧ HeapAtI wr hb w.heap.size k k (built t placeV k) ∧ Below w.heap.size w wr) (fun i _ => len - (intOf i).toNat)
    case atStart => exact ⟨0, by omega, rfl, H1.out, B1.out⟩
    case round =>
      obtain ⟨k, hk, rfl, hH, hB⟩ := hrel
      have HH := Lib.hid hH
      have HB := Lib.hid hB
      clear hH hB H1 B1
      by_cases hlt : k < len
      · obtain ⟨b, o, rfl, hbs, hc⟩ := H3.out k hlt
        have hcr := (HB.out.cell (p := ⟨b, o + k, none⟩) hbs).trans hc
        have e1 : IntKind.i64.wrap ((k : Int) + 1) = ((k + 1 : Nat) : Int) := by rw [IntWalk.i64_in _ (by have := HL.out; omega)]; omega
        clear hc hbs
        go_wp2_with fail
        refine (hputI_any hb w.heap.size k k (built t placeV k) (t k) (placeV k) wr HH.out (by have := HL.out; omega) (by have := HL.out; omega) HB.out.size).mono ?_
        rintro e w2 ⟨rfl, hH, _, hB⟩
        have HH2 := Lib.hid hH
        have HB2 := Lib.hid (HB.out.trans hB)
        clear hH hB hcr
        go_wp2
        go_roundw
        case rel => exact ⟨k + 1, by omega, by go_num, HH2.out, HB2.out⟩
        case measure => simp [intOf]; omega
      · have hkl : k = len := by omega
        subst hkl
        clear hlt hk
        have hL0 := built_length t placeV k
        have hat := built_at t placeV k
        have htold := HH.out.told
        generalize hgb : built t placeV k = L0 at *
        have HL0 := Lib.hid hL0
        have HAT := Lib.hid hat
        have HT := Lib.hid htold
        clear hL0 hat htold hgb
        go_wp2_with fail
        go_loopw [5, 6] (fun lv i wr => ∃ m : Nat, m ≤ k ∧ i = .int .i64 m ∧ ((m = 0 ∧ lv = .int .i64 (-1)) ∨ ∃ m' j', m = m' + 1 ∧ j' < k ∧ lv = .int .i64 (j' : Nat) ∧ L0[m']? = some (item t placeV j')) ∧ HeapAtI wr hb w.heap.size (k + m) k (L0.drop m) ∧ Below w.heap.size w wr) (fun _ i _ => k - (intOf i).toNat)
        case atStart => exact ⟨0, by omega, rfl, .inl ⟨rfl, rfl⟩, HH.out, HB.out⟩
        case round =>
          obtain ⟨m, hm, rfl, hlast, hH, hB⟩ := hrel
          have HH1 := Lib.hid hH
          have HB1 := Lib.hid hB
          clear hH hB HH HB
          by_cases hlt : m < k
          · obtain ⟨j, hj, hx⟩ := HAT.out m (by rw [HL0.out]; exact hlt)
            have hdrop : L0.drop m = item t placeV j :: L0.drop (m + 1) := by rw [List.drop_eq_getElem_cons (by rw [HL0.out]; exact hlt), hx]
            have hH := HH1.out
            rw [hdrop] at hH
            have HH2 := Lib.hid hH
            have hjb := HOK.out j hj
            obtain ⟨b, o, rfl, hbs, hc⟩ := H3.out j hj
            have hcr := (HB1.out.cell (p := ⟨b, o + j, none⟩) hbs).trans hc
            have g1 : decide (k ≤ j) = false := decide_eq_false (by omega)
            have g2 : decide (j < k) = true := decide_eq_true hj
            have g0 : decide ((j : Int) < 0) = false := decide_eq_false (by omega)
            have HJ := Lib.hid hj
            have HXJ : Hid (L0[m]? = some (item t placeV j)) := Lib.hid (by rw [List.getElem?_eq_getElem (by rw [HL0.out]; exact hlt), hx])
            clear hc hH hdrop hx
            have e1 : IntKind.i64.wrap ((m : Int) + 1) = ((m + 1 : Nat) : Int) := by rw [IntWalk.i64_in _ (by have := HL.out; omega)]; omega
            go_wp2_with fail
            refine (takeI_due hb w.heap.size (k + m) k (item t placeV j) (L0.drop (m + 1)) 9223372036854775807 wr HH2.out (by unfold item i64ok at *; simp only; omega) (by have := HL.out; omega) HB1.out.size).mono ?_
            rintro e w2 ⟨rfl, hH, _, hB⟩
            have hcr2 : w2.cell? ⟨b, o + j, none⟩ = some (.int .i64 (t j)) := (hB.cell (p := ⟨b, o + j, none⟩) hbs).trans hcr
            have HH3 := Lib.hid hH
            have HB3 := Lib.hid (HB1.out.trans hB)
            clear hH hB
            rcases hlast with ⟨rfl, rfl⟩ | ⟨m', j', rfl, hj', rfl, hx'⟩
            · clear hcr hjb
              simp only [item, placeV]
              go_wp2_with fail
              refine wp_region_ex (by kernel_rfl) (fun W => W = w2.drew) (fun W W' => W = W')
                [[(8, none)], [(43, some 0)], [(44, some 1)], [(7, none), (45, some 2)], [(45, some 2), (46, some 3)], [(45, some 2), (47, some 4)], [(48, some 5)], [(7, none), (49, some 6)], [(0, none), (49, some 6)], [(49, some 6), (51, some 8)], [(49, some 6), (50, some 7), (52, some 9)], [(49, some 6), (53, some 10)], [(54, some 11)], [(5, none), (55, some 12)], [(55, some 12), (56, some 13)], [(55, some 12), (57, some 14)], [(0, none), (58, some 15)], [(7, none), (58, some 15)], [(58, some 15), (59, some 16), (60, some 17)], [(58, some 15), (61, some 18)], [(0, none), (58, some 15)], [(5, none), (58, some 15)], [(58, some 15), (63, some 20), (64, some 21)], [(58, some 15), (65, some 22)], [(58, some 15), (62, some 19), (66, some 23)], [(58, some 15), (67, some 24)], [(0, none), (68, some 25)], [(7, none), (68, some 25)], [(68, some 25), (69, some 26), (70, some 27)], [(68, some 25), (71, some 28)], [(0, none), (68, some 25)], [(5, none), (68, some 25)], [(68, some 25), (73, some 30), (74, some 31)], [(68, some 25), (75, some 32)], [(68, some 25), (72, some 29), (76, some 33)], [(68, some 25), (77, some 34)], [(7, none), (78, some 35)], [(5, none), (78, some 35)], [(78, some 35), (79, some 36), (80, some 37)], [(68, some 25), (78, some 35), (81, some 38)], [(58, some 15), (68, some 25), (82, some 39)], [(55, some 12), (58, some 15), (83, some 40)], [(55, some 12), (84, some 41)]]
                [none, none, none, none, none, none, none, none, none, none, none, none, none, none, none, none, none, none, none, none, none, none, none, none, none, none, none, none, none, none, none, none, none, none, none, none, none, none, none, none, none, none, none, some 0, some 1, some 2, some 3, some 4, some 5, some 6, some 7, some 8, some 9, some 10, some 11, some 12, some 13, some 14, some 15, some 16, some 17, some 18, some 19, some 20, some 21, some 22, some 23, some 24, some 25, some 26, some 27, some 28, some 29, some 30, some 31, some 32, some 33, some 34, some 35, some 36, some 37, some 38, some 39, some 40, some 41, some 42, none, none, none, none, none, none, none] (by kernel_rfl) (by kernel_rfl) rfl ?_
              iterate 43
                first
                | (refine ex_pure (c := ?_) (fun _ _ => rfl) ?_ ?_
                   rotate_left
                   · intro a' W hR hF
                     subst hR
                     simp only [FactsOf, List.nil_append, List.cons_append, List.getD_cons_zero, List.getD_cons_succ, exists_eq_left, and_true, List.getElem?_toArray, List.getElem?_cons_zero, List.getElem?_cons_succ] at hF
                     refine ⟨?_, ?_⟩
                     · simp [Region.wanted, yielded, hF]
                     · go_simp
                       with_reducible rfl)
                | (refine ex_skip (fun _ _ => rfl) ?_ ?_
                   · intro a' W hR hF
                     simp only [FactsOf, List.nil_append, List.cons_append, List.getD_cons_zero, List.getD_cons_succ, exists_eq_left, and_true, List.getElem?_toArray, List.getElem?_cons_zero, List.getElem?_cons_succ] at hF
                     simp [Region.wanted, yielded, hF, undef])
              show ∀ W, _ → _
              intro W hR
              subst hR
              simp only [FinOf, List.nil_append, List.cons_append, List.getD_cons_zero, List.getD_cons_succ, forall_eq, forall_exists_index, and_imp, Nat.reduceAdd, Array.getD_eq_getD_getElem?, List.getElem?_toArray, List.getElem?_cons_zero, List.getElem?_cons_succ, Option.getD_some]
              go_wp2
              go_roundw
              case rel => exact ⟨1, by omega, by go_num, .inr ⟨0, j, rfl, HJ.out, rfl, HXJ.out⟩, HH3.out.below (Below.refl _ _).drew, HB3.out.drew⟩
              case measure => simp [intOf]; omega
            · obtain ⟨b2, o2, e2, hbs2, hc2⟩ := H3.out j' hj'
              simp only [Option.some.injEq, Addr.mk.injEq, and_true] at e2
              obtain ⟨rfl, rfl⟩ := e2
              have hcr3 : w2.cell? ⟨b, o + j', none⟩ = some (.int .i64 (t j')) := (HB3.out.cell (p := ⟨b, o + j', none⟩) hbs2).trans hc2
              have g3 : decide (0 ≤ (j' : Int)) = true := by simp
              have hord : lt (item t placeV j') (item t placeV j) := by
                have h1 : m' < L0.length := by rw [HL0.out]; omega
                have h2 : m' + 1 < L0.length := by rw [HL0.out]; exact hlt
                have := List.pairwise_iff_getElem.1 HT.out m' (m' + 1) h1 h2 (by omega)
                rw [List.getElem?_eq_getElem h1, Option.some.injEq] at hx'
                have hxj := HXJ.out
                rw [List.getElem?_eq_getElem h2, Option.some.injEq] at hxj
                rwa [hx', hxj] at this
              unfold lt item at hord
              simp only at hord
              have g4 : decide (t j < t j') = false := decide_eq_false (by omega)
              have g5 : (t j == t j' && decide (j ≤ j')) = false := by
                by_cases h : t j = t j'
                · have : ¬ j ≤ j' := by omega
                  simp [this]
                · simp [h]
              clear hcr hjb hord hx' hc2 hbs hbs2
              generalize t j' = tb at *
              generalize t j = ta at *
              have g6 : ta = tb ∨ ¬ ta = tb := Classical.em _
              simp only [item, placeV]
              rcases g6 with g6 | g6
              · subst g6
                have g7 : decide (j ≤ j') = false := by simpa using g5
                clear g5
                go_wp2_with fail
                refine wp_region_ex (by kernel_rfl) (fun W => W = w2.drew) (fun W W' => W = W')
                  [[(8, none)], [(43, some 0)], [(44, some 1)], [(7, none), (45, some 2)], [(45, some 2), (46, some 3)], [(45, some 2), (47, some 4)], [(48, some 5)], [(7, none), (49, some 6)], [(0, none), (49, some 6)], [(49, some 6), (51, some 8)], [(49, some 6), (50, some 7), (52, some 9)], [(49, some 6), (53, some 10)], [(54, some 11)], [(5, none), (55, some 12)], [(55, some 12), (56, some 13)], [(55, some 12), (57, some 14)], [(0, none), (58, some 15)], [(7, none), (58, some 15)], [(58, some 15), (59, some 16), (60, some 17)], [(58, some 15), (61, some 18)], [(0, none), (58, some 15)], [(5, none), (58, some 15)], [(58, some 15), (63, some 20), (64, some 21)], [(58, some 15), (65, some 22)], [(58, some 15), (62, some 19), (66, some 23)], [(58, some 15), (67, some 24)], [(0, none), (68, some 25)], [(7, none), (68, some 25)], [(68, some 25), (69, some 26), (70, some 27)], [(68, some 25), (71, some 28)], [(0, none), (68, some 25)], [(5, none), (68, some 25)], [(68, some 25), (73, some 30), (74, some 31)], [(68, some 25), (75, some 32)], [(68, some 25), (72, some 29), (76, some 33)], [(68, some 25), (77, some 34)], [(7, none), (78, some 35)], [(5, none), (78, some 35)], [(78, some 35), (79, some 36), (80, some 37)], [(68, some 25), (78, some 35), (81, some 38)], [(58, some 15), (68, some 25), (82, some 39)], [(55, some 12), (58, some 15), (83, some 40)], [(55, some 12), (84, some 41)]]
                  [none, none, none, none, none, none, none, none, none, none, none, none, none, none, none, none, none, none, none, none, none, none, none, none, none, none, none, none, none, none, none, none, none, none, none, none, none, none, none, none, none, none, none, some 0, some 1, some 2, some 3, some 4, some 5, some 6, some 7, some 8, some 9, some 10, some 11, some 12, some 13, some 14, some 15, some 16, some 17, some 18, some 19, some 20, some 21, some 22, some 23, some 24, some 25, some 26, some 27, some 28, some 29, some 30, some 31, some 32, some 33, some 34, some 35, some 36, some 37, some 38, some 39, some 40, some 41, some 42, none, none, none, none, none, none, none] (by kernel_rfl) (by kernel_rfl) rfl ?_
                iterate 43
                  first
                  | (refine ex_pure (c := ?_) (fun _ _ => rfl) ?_ ?_
                     rotate_left
                     · intro a' W hR hF
                       subst hR
                       simp only [FactsOf, List.nil_append, List.cons_append, List.getD_cons_zero, List.getD_cons_succ, exists_eq_left, and_true, List.getElem?_toArray, List.getElem?_cons_zero, List.getElem?_cons_succ] at hF
                       refine ⟨?_, ?_⟩
                       · simp [Region.wanted, yielded, hF]
                       · go_simp
                         with_reducible rfl)
                  | (refine ex_skip (fun _ _ => rfl) ?_ ?_
                     · intro a' W hR hF
                       simp only [FactsOf, List.nil_append, List.cons_append, List.getD_cons_zero, List.getD_cons_succ, exists_eq_left, and_true, List.getElem?_toArray, List.getElem?_cons_zero, List.getElem?_cons_succ] at hF
                       simp [Region.wanted, yielded, hF, undef])
                show ∀ W, _ → _
                intro W hR
                subst hR
                simp only [FinOf, List.nil_append, List.cons_append, List.getD_cons_zero, List.getD_cons_succ, forall_eq, forall_exists_index, and_imp, Nat.reduceAdd, Array.getD_eq_getD_getElem?, List.getElem?_toArray, List.getElem?_cons_zero, List.getElem?_cons_succ, Option.getD_some]
                go_wp2
                go_roundw
                case rel => exact ⟨m' + 1 + 1, by omega, by go_num, .inr ⟨m' + 1, j, rfl, HJ.out, rfl, HXJ.out⟩, HH3.out.below (Below.refl _ _).drew, HB3.out.drew⟩
                case measure => simp [intOf]; omega
              · have g7 : (ta == tb) = false := beq_eq_false_iff_ne.2 g6
                have g8 : decide (ta = tb) = false := decide_eq_false g6
                clear g5
                go_wp2_with fail
                refine wp_region_ex (by kernel_rfl) (fun W => W = w2.drew) (fun W W' => W = W')
                  [[(8, none)], [(43, some 0)], [(44, some 1)], [(7, none), (45, some 2)], [(45, some 2), (46, some 3)], [(45, some 2), (47, some 4)], [(48, some 5)], [(7, none), (49, some 6)], [(0, none), (49, some 6)], [(49, some 6), (51, some 8)], [(49, some 6), (50, some 7), (52, some 9)], [(49, some 6), (53, some 10)], [(54, some 11)], [(5, none), (55, some 12)], [(55, some 12), (56, some 13)], [(55, some 12), (57, some 14)], [(0, none), (58, some 15)], [(7, none), (58, some 15)], [(58, some 15), (59, some 16), (60, some 17)], [(58, some 15), (61, some 18)], [(0, none), (58, some 15)], [(5, none), (58, some 15)], [(58, some 15), (63, some 20), (64, some 21)], [(58, some 15), (65, some 22)], [(58, some 15), (62, some 19), (66, some 23)], [(58, some 15), (67, some 24)], [(0, none), (68, some 25)], [(7, none), (68, some 25)], [(68, some 25), (69, some 26), (70, some 27)], [(68, some 25), (71, some 28)], [(0, none), (68, some 25)], [(5, none), (68, some 25)], [(68, some 25), (73, some 30), (74, some 31)], [(68, some 25), (75, some 32)], [(68, some 25), (72, some 29), (76, some 33)], [(68, some 25), (77, some 34)], [(7, none), (78, some 35)], [(5, none), (78, some 35)], [(78, some 35), (79, some 36), (80, some 37)], [(68, some 25), (78, some 35), (81, some 38)], [(58, some 15), (68, some 25), (82, some 39)], [(55, some 12), (58, some 15), (83, some 40)], [(55, some 12), (84, some 41)]]
                  [none, none, none, none, none, none, none, none, none, none, none, none, none, none, none, none, none, none, none, none, none, none, none, none, none, none, none, none, none, none, none, none, none, none, none, none, none, none, none, none, none, none, none, some 0, some 1, some 2, some 3, some 4, some 5, some 6, some 7, some 8, some 9, some 10, some 11, some 12, some 13, some 14, some 15, some 16, some 17, some 18, some 19, some 20, some 21, some 22, some 23, some 24, some 25, some 26, some 27, some 28, some 29, some 30, some 31, some 32, some 33, some 34, some 35, some 36, some 37, some 38, some 39, some 40, some 41, some 42, none, none, none, none, none, none, none] (by kernel_rfl) (by kernel_rfl) rfl ?_
                iterate 43
                  first
                  | (refine ex_pure (c := ?_) (fun _ _ => rfl) ?_ ?_
                     rotate_left
                     · intro a' W hR hF
                       subst hR
                       simp only [FactsOf, List.nil_append, List.cons_append, List.getD_cons_zero, List.getD_cons_succ, exists_eq_left, and_true, List.getElem?_toArray, List.getElem?_cons_zero, List.getElem?_cons_succ] at hF
                       refine ⟨?_, ?_⟩
                       · simp [Region.wanted, yielded, hF]
                       · go_simp
                         with_reducible rfl)
                  | (refine ex_skip (fun _ _ => rfl) ?_ ?_
                     · intro a' W hR hF
                       simp only [FactsOf, List.nil_append, List.cons_append, List.getD_cons_zero, List.getD_cons_succ, exists_eq_left, and_true, List.getElem?_toArray, List.getElem?_cons_zero, List.getElem?_cons_succ] at hF
                       simp [Region.wanted, yielded, hF, undef])
                show ∀ W, _ → _
                intro W hR
                subst hR
                simp only [FinOf, List.nil_append, List.cons_append, List.getD_cons_zero, List.getD_cons_succ, forall_eq, forall_exists_index, and_imp, Nat.reduceAdd, Array.getD_eq_getD_getElem?, List.getElem?_toArray, List.getElem?_cons_zero, List.getElem?_cons_succ, Option.getD_some]
                go_wp2
                go_roundw
                case rel => exact ⟨m' + 1 + 1, by omega, by go_num, .inr ⟨m' + 1, j, rfl, HJ.out, rfl, HXJ.out⟩, HH3.out.below (Below.refl _ _).drew, HB3.out.drew⟩
                case measure => simp [intOf]; omega
          · have hmk : m = k := by omega
            subst hmk
            have hH := HH1.out
            rw [List.drop_eq_nil_of_le (by rw [HL0.out]; omega)] at hH
            have HH2 := Lib.hid hH
            clear hH hlast hlt hm
            go_wp2_with fail
            refine (alive4_any wr).mono ?_
            rintro e w2 ⟨rfl, hB⟩
            have HH3 := Lib.hid (HH2.out.below hB)
            have HB3 := Lib.hid (HB1.out.trans (hB.mono HB1.out.size))
            clear hB
            go_wp2_with fail
            refine (hlenI_any hb w.heap.size _ _ [] w2 HH3.out).mono ?_
            rintro e w3 ⟨rfl, rfl⟩
            go_wp2
            go_ret
            exact ⟨rfl, HB3.out⟩
  · have d1 : decide (100 < (l.length : Int)) = true := by simp; omega
    clear h3 hok
    go_enter Try.func4, Try.ntmps4
    go_wp2_with fail
    refine (alive4_any w).mono ?_
    rintro e w1 ⟨rfl, hB⟩
    have HB := Lib.hid hB
    clear hB
    go_wp2
    go_ret
    exact ⟨rfl, HB.out⟩

set_option maxRecDepth 100000 in
theorem heapSorts_lifted (os : Os) (started : os.Started) (H : Type) (enc : TypeId × Value → H) :
    ReturnsInHanded {} Try.checked os 4 .any (Rows.heapSortsSpec.pre6 enc Try.prog Try.f4 Rows.heapSortsRow.domain false) (Rows.heapSortsSpec.post enc Try.prog Try.f4 false true false false) := by
  refine returnsInHanded_of_change (C := Try.checked) own started (by kernel_rfl) Try.func4
    (ChangeSpec.witness6 (enc := enc) (C := Try.checked) false ⟨#[], #[.slice none 0 0], []⟩ 8 (by kernel_rfl) (by kernel_rfl) (by kernel_rfl) (by kernel_rfl)) ?_
  intro W base args ds gs before hval0 hW _ _
  have hval : ∀ (j : Nat) t v, Try.f4.params[j]? = some t → args[j]? = some v → Value.okWide Try.prog W .any base t v := hval0
  have hW' := hW
  obtain ⟨p, q, hA0, hV, rfl, hfz, hnd⟩ := hW
  have hA : DataW.TrodAll enc Try.prog W 0 (fun _ => true) true Try.f4.params.toList args.toList ds p := hA0
  rw [Try.params4] at hA hval
  obtain ⟨v0, vs0, d0, ds0, p0, q0, hargs, rfl, rfl, h0, r0⟩ := trodAll_cons hA
  obtain ⟨rfl, rfl, rfl⟩ := trodAll_nil r0
  obtain rfl : args = #[v0] := by cases args; simp_all
  obtain ⟨rfl, rfl⟩ := trodVars_none hV
  have k0 := h0
  have lt0 : ∀ x ∈ p0, x.block < W.heap.size := by obtain ⟨m, hm⟩ := k0; exact DataW.trod_lt m _ _ _ hm
  obtain ⟨a0, w0⟩ := ints_open (hval 0 30 v0 rfl rfl) k0
  clear hA0 hval0
  refine (heapSorts_walk v0 a0 W w0).mono fun e W' ⟨he, bel⟩ => ?_
  subst he
  exact ⟨_, rfl, _, _, _, [], _, [], hW', trodAll_mk1 (shut_bool Try.underlying4 _), (trodAll_cons_mk (Below.trod laidOut (by kernel_rfl) (of_decide_eq_true (by kernel_rfl)) k0 bel lt0) trodAll_mk0), rfl, bel.frame _, fun h => by cases h⟩

theorem heapSorts_said : Rows.HeapSortsSaid :=
  OpenClaim.holds_of_wide 4 Try.f4 rfl rfl rfl rfl rfl rfl rfl ⟨rfl, rfl, rfl, rfl, rfl⟩ rfl rfl rfl rfl rfl (by kernel_rfl) Try.func4 (by kernel_rfl)
    (of_decide_eq_true (by kernel_rfl)) (by unfold Func.isWrapper; first | (rw [if_pos (by decide +kernel)]; kernel_rfl) | (rw [if_neg (by decide +kernel)]; exact ⟨rfl, rfl⟩))
    (fun os started H enc _ => heapSorts_lifted os started H enc)
#print axioms heapSorts_said
end Go.Proofs.Ytiacnmmhmnpieaa
