/- Package net: New, ready, all, isCut. -/
import Derived.Test.YtkfbljbhdjnggaaNtA
namespace Go.Proofs.Ytkfbljbhdjnggaa
open Go Go.RowKit Go.Maps NetP
set_option maxRecDepth 100000
set_option maxHeartbeats 1000000
set_option linter.unusedSimpArgs false

theorem netNew_any (w : World) : Calls Try.prog 8 #[] w fun e w' => ∃ g, e = .returned (.pointer (some ⟨g, 0, none⟩)) ∧ Has (NN g 0 [] []) w w' := by
  have HN := Lib.hid (newK_any 900 w 900 (by rfl))
  have hmm := @run_makeMap Try.prog
  go_enter Try.func8, Try.ntmps8
  go_wp2_with fail
  refine HN.out.mono ?_
  rintro e w1 ⟨rfl, hr, hb⟩
  have HR := Lib.hid hr
  have HB := Lib.hid hb
  have hb1 : Below w1.heap.size w1 (w1.alloc (.map #[] 0)) := (Below.refl _ w1).alloc (Nat.le_refl _) _
  have hb2 : Below (w1.alloc (.map #[] 0)).heap.size (w1.alloc (.map #[] 0)) ((w1.alloc (.map #[] 0)).alloc (.cells #[.pointer (some ⟨w.heap.size, 0, none⟩), .map (some w1.heap.size)] 34)) := (Below.refl _ _).alloc (Nat.le_refl _) _
  have hz : (w1.alloc (.map #[] 0)).heap.size = w1.heap.size + 1 := World.size_alloc ..
  have HX : Hid (Has (NN (w1.heap.size + 1) 0 [] []) w ((w1.alloc (.map #[] 0)).alloc (.cells #[.pointer (some ⟨w.heap.size, 0, none⟩), .map (some w1.heap.size)] 34))) := Lib.hid ⟨⟨w.heap.size, w.heap.size, w1.heap.size, 0, hz ▸ Sits.fresh _ _ _, (hr.below hb1).below hb2, (MapE.new_ w1).below hb2, Nat.le_refl _, by have := hb.size; omega, Nat.le_refl _, Nat.le_refl _, hb.size⟩, (hb.trans (hb1.mono hb.size)).trans (hb2.mono (Nat.le_trans hb.size hb1.size))⟩
  clear hr hb hb1 hb2 hz
  go_wp2
  go_ret
  exact ⟨_, rfl, HX.out⟩
theorem ready_yes {g c : Nat} {L : List Pk} {C : List (Int × Int)} {S : Nat → Prop} {w : World} (h : NN g c L C S w) :
    Calls Try.prog 31 #[.pointer (some ⟨g, 0, none⟩)] w fun e w' => e = .returned (.bool true) ∧ w = w' := by
  obtain ⟨p, q, m, n, hs, -⟩ := h
  have c0 := hs.cell 0
  have hl := hs.lt
  clear hs
  go_enter Try.func31, Try.ntmps31
  go_wp2
  go_ret
  exact ⟨rfl, rfl⟩
theorem ready_zero {g : Nat} {S : Nat → Prop} {w : World} (hS : ∀ k, w.heap.size ≤ k → S k) (h : ZN g S w) :
    Calls Try.prog 31 #[.pointer (some ⟨g, 0, none⟩)] w fun e w' => e = .returned (.bool true) ∧ NN g 0 [] [] S w' ∧ Many S w w' := by
  obtain ⟨hs, hg⟩ := h
  have c0 : w.cell? ⟨g, 0, none⟩ = some (.pointer none) := hs.cell 0
  have hl := hs.lt
  have HS := Lib.hid hs
  have HN := Lib.hid (netNew_any w)
  clear hs
  go_enter Try.func31, Try.ntmps31
  go_wp2_with fail
  refine HN.out.mono ?_
  rintro e w1 ⟨g2, rfl, ⟨p, q, m, n, s1, hr, hm, hn, x1, x2, x3, x4⟩, hb⟩
  have sg := HS.out.below' hb
  have e0 : w1.cell? ⟨g2, 0, none⟩ = some (.pointer (some ⟨p, 0, none⟩)) := s1.cell 0
  have e1 : w1.cell? ⟨g2, 1, none⟩ = some (.map (some m)) := s1.cell 1
  have z0 : w1.cell? ⟨g, 0, none⟩ = some (.pointer none) := sg.cell 0
  have z1 : w1.cell? ⟨g, 1, none⟩ = some (.map none) := sg.cell 1
  have f0 := sg.warm 0
  have f1 := sg.warm 1
  have hl2 := s1.lt
  have hl3 := sg.lt
  have hpg : p ≠ g := by omega
  have hqg : q ≠ g := by omega
  have hmg : m ≠ g := by omega
  have HX : Hid (NN g 0 [] [] S ((w1.setCell ⟨g, 0, none⟩ (.pointer (some ⟨p, 0, none⟩))).setCell ⟨g, 1, none⟩ (.map (some m))) ∧ Many S w ((w1.setCell ⟨g, 0, none⟩ (.pointer (some ⟨p, 0, none⟩))).setCell ⟨g, 1, none⟩ (.map (some m)))) := Lib.hid
    ⟨⟨p, q, m, n, (sg.put 0 _).put 1 _, (hr.away hpg hqg 0 _).away hpg hqg 1 _, (hm.keep (Below.heap_setCell _ _ _ _ (show m ≠ g from hmg))).keep (Below.heap_setCell _ _ _ _ (show m ≠ g from hmg)), hn, hg, hS _ x2, hS _ x3, hS _ x4⟩,
      ((Many.of_below S hb).store hg 0 _).store hg 1 _⟩
  clear s1 hr hm hn x1 x2 x3 x4 hb sg hpg hqg hmg
  go_wp2
  go_ret
  exact ⟨rfl, HX.out⟩
theorem ready_nil (w : World) : Calls Try.prog 31 #[.pointer none] w fun e w' => e = .returned (.bool false) ∧ w = w' := by
  go_enter Try.func31, Try.ntmps31
  go_wp2
  go_ret
  exact ⟨rfl, rfl⟩
theorem all_at {g : Nat} {P : Option Addr} {v : Value} {w : World} (hs : Sits w g 34 #[.pointer P, v]) :
    Calls Try.prog 36 #[.pointer (some ⟨g, 0, none⟩)] w fun e w' => e = .returned (.pointer P) ∧ w = w' := by
  have c0 := hs.cell 0
  have hl := hs.lt
  clear hs
  go_enter Try.func36, Try.ntmps36
  go_wp2
  go_ret
  exact ⟨rfl, rfl⟩
theorem all_nil (w : World) : Calls Try.prog 36 #[.pointer none] w fun e w' => e = .returned (.pointer none) ∧ w = w' := by
  go_enter Try.func36, Try.ntmps36
  go_wp2
  go_ret
  exact ⟨rfl, rfl⟩
theorem isCut_any {g c : Nat} {L : List Pk} {C : List (Int × Int)} {S : Nat → Prop} {w : World} (h : NN g c L C S w) (a b : Int) (hab : InR (a, b)) :
    Calls Try.prog 32 #[.pointer (some ⟨g, 0, none⟩), .int .i64 a, .int .i64 b] w fun e w' => e = .returned (.bool (decide (endsP a b ∈ C))) ∧ Below w.heap.size w w' := by
  obtain ⟨p, q, m, n, hs, hr, hm, -⟩ := h
  have HH : Hid (∀ W, Below w.heap.size w W → W.cell? ⟨g, 1, none⟩ = some (.map (some m)) ∧ g < W.heap.size ∧ (Instr.lookup 32 (.map (some m)) (.agg #[.int .i64 (endsP a b).1, .int .i64 (endsP a b).2]) true).run Try.prog W = .ok (.tuple #[.agg #[], .bool (decide (endsP a b ∈ C))]) W) := Lib.hid fun W hW => ⟨(hs.below' hW).cell 1, (hs.below' hW).lt, (hm.below hW).look _ hab.ends⟩
  have HB : Hid (∀ W, Calls Try.prog 40 #[.int .i64 a, .int .i64 b] W fun e w' => e = .returned (.agg #[.int .i64 (endsP a b).1, .int .i64 (endsP a b).2]) ∧ Below W.heap.size W w') := Lib.hid (between_any a b)
  obtain ⟨⟨x1, x2⟩, hx⟩ : ∃ x, x = endsP a b := ⟨_, rfl⟩
  rw [← hx] at HH HB ⊢
  simp only at HH HB
  obtain ⟨B, hB⟩ : ∃ B, B = decide ((x1, x2) ∈ C) := ⟨_, rfl⟩
  rw [← hB] at HH ⊢
  clear hs hr hm hx hB hab
  go_enter Try.func32, Try.ntmps32
  go_wp2_with fail
  refine wp_region_exV (by kernel_rfl) (fun d W => Below w.heap.size w W ∧ ∀ v, d 11 = some v → ∃ k, v = .pointer (some ⟨k, 0, none⟩) ∧ Sits W k 67 #[])
    [[(0, none)], [(10, some 0)], [(11, some 1)], [(12, some 2)], [(1, none)], [(2, none)], [(14, some 4), (15, some 5)], [(13, some 3), (16, some 6)], [(17, some 7)], [(9, some 8)], [(9, some 8)], [], [(7, some 11), (18, some 9)], [(19, some 10)]]
    [none, none, none, none, none, none, none, some 11, some 13, some 8, some 0, some 1, some 2, some 3, some 4, some 5, some 6, some 7, some 9, some 10, none] (by kernel_rfl) (by kernel_rfl) ⟨(Below.refl _ _).drew, fun v h => by cases h⟩ ?_
  iterate 6
    refine exV_pure (c := ?_) (fun _ _ v h => ⟨h.1, fun v he => h.2 v (by rwa [setv_other _ _ (by decide)] at he)⟩) ?_ ?_
    rotate_left
    · intro a' d' W hR hF
      simp only [FactsV, List.nil_append, List.cons_append, List.getD_cons_zero, List.getD_cons_succ, exists_eq_left, and_true, true_and, List.getElem?_toArray, List.getElem?_cons_zero, List.getElem?_cons_succ] at hF
      obtain ⟨b1, b2, b3⟩ := HH.out W hR.1
      refine ⟨?_, ?_⟩
      · simp [Region.wanted, yielded, hF]
      · go_simp
        with_reducible rfl
  refine exV_callv (fun x => x = .agg #[.int .i64 x1, .int .i64 x2]) (fun a' d' W hd hR hF => ?_) ?_
  · skip
    simp only [FactsV, List.nil_append, List.cons_append, List.getD_cons_zero, List.getD_cons_succ, exists_eq_left, and_true, true_and, List.getElem?_toArray, List.getElem?_cons_zero, List.getElem?_cons_succ] at hF
    exact ⟨by simp [Region.wanted, yielded, hF], 40, #[.int .i64 a, .int .i64 b], by go_simp, (HB.out W).mono fun e w' ⟨he, hb⟩ => ⟨_, he, ⟨hR.1.trans (hb.mono hR.1.size), fun v hv => (hR.2 v (by rwa [setv_other _ _ (by decide)] at hv)).imp fun k hk => ⟨hk.1, hk.2.below' hb⟩⟩, rfl⟩⟩
  iterate 4
    refine exV_pure (c := ?_) (fun _ _ v h => ⟨h.1, fun v he => h.2 v (by rwa [setv_other _ _ (by decide)] at he)⟩) ?_ ?_
    rotate_left
    · intro a' d' W hR hF
      simp only [FactsV, List.nil_append, List.cons_append, List.getD_cons_zero, List.getD_cons_succ, exists_eq_left, and_true, true_and, List.getElem?_toArray, List.getElem?_cons_zero, List.getElem?_cons_succ] at hF
      obtain ⟨b1, b2, b3⟩ := HH.out W hR.1
      refine ⟨?_, ?_⟩
      · simp [Region.wanted, yielded, hF]
      · go_simp
        with_reducible rfl
  refine exV_step (fun v => ∃ k, v = .pointer (some ⟨k, 0, none⟩)) (fun a' d' W hd hR hF => ?_) ?_
  · exact ⟨by simp [Region.wanted, yielded], .pointer (some ⟨W.heap.size, 0, none⟩), W.alloc (.cells #[] 67), by go_simp, ⟨_, rfl⟩, hR.1.alloc hR.1.size _, fun v hv => by
      rw [setv_same] at hv
      cases hv
      exact ⟨_, rfl, Sits.fresh W _ _⟩⟩
  refine exV_store (fun a' d' W hd hR hF => ?_) ?_
  · skip
    simp only [FactsV, List.nil_append, List.cons_append, List.getD_cons_zero, List.getD_cons_succ, exists_eq_left, and_true, true_and, List.getElem?_toArray, List.getElem?_cons_zero, List.getElem?_cons_succ] at hF
    obtain ⟨⟨vx, ⟨gx, rfl⟩, t26, h11⟩, t195⟩ := hF
    obtain ⟨k, e, hs⟩ := hR.2 _ h11
    cases e
    refine ⟨by simp [Region.wanted, yielded], W, by go_simp, ?_⟩
    exact ⟨hR.1, fun v he => hR.2 v (by rwa [setv_other _ _ (by decide)] at he)⟩
  iterate 1
    refine exV_pure (c := ?_) (fun _ _ v h => ⟨h.1, fun v he => h.2 v (by rwa [setv_other _ _ (by decide)] at he)⟩) ?_ ?_
    rotate_left
    · intro a' d' W hR hF
      simp only [FactsV, List.nil_append, List.cons_append, List.getD_cons_zero, List.getD_cons_succ, exists_eq_left, and_true, true_and, List.getElem?_toArray, List.getElem?_cons_zero, List.getElem?_cons_succ] at hF
      obtain ⟨b1, b2, b3⟩ := HH.out W hR.1
      refine ⟨?_, ?_⟩
      · simp [Region.wanted, yielded, hF]
      · go_simp
        with_reducible rfl
  show ∀ d W, _ → _ → _
  intro d w5 hA2 hR2
  simp only [FinV, List.nil_append, List.cons_append, List.getD_cons_zero, List.getD_cons_succ, forall_eq, forall_const, true_implies, forall_exists_index, and_imp, Nat.reduceAdd, Array.getD_eq_getD_getElem?, List.getElem?_toArray, List.getElem?_cons_zero, List.getElem?_cons_succ, Option.getD_some]
  have HL := Lib.hid hR2.1
  clear hR2 hA2
  intros
  go_wp2
  go_ret
  exact ⟨rfl, HL.out⟩
end Go.Proofs.Ytkfbljbhdjnggaa
