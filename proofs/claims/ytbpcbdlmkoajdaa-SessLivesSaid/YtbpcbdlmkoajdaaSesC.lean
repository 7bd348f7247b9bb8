/- Package sess: free, hear, told. -/
import Derived.Test.YtbpcbdlmkoajdaaSesB
import Derived.Test.YtbpcbdlmkoajdaaAddC
import Derived.Test.YtbpcbdlmkoajdaaMade
namespace Go.Proofs.Ytbpcbdlmkoajdaa
open Go Go.RowKit Go.Maps SesP
set_option maxRecDepth 100000
set_option maxHeartbeats 1000000
set_option linter.unusedSimpArgs false
/-- A walk's step over a look-up whose run is known. -/
theorem wpList_look {P : Program} {w : World} {ops : Array Oper} {rest : List Oper} {o : Oper} {a : Act} {Q : Exit → Act → World → Prop} (hg : o.guard = none) (m x : Operand) (t : TypeId) (c : Bool) (hop : o.op = Op.lookup t m x c)
    (mv xv r : Value) (hm : a.eval m = mv) (hx : a.eval x = xv) (hrun : (Instr.lookup t mv xv c).run P w = .ok r w) (hK : wpList P ops Q rest (a.put o.dst r) w) : wpList P ops Q (o :: rest) a w := by
  refine wpList_plain hg fun K' hK' => ?_
  unfold Oper.wp
  simp [execOp, hop, hm, hx, hrun, Result.andThen]
  exact hK' _ _ hK
section
variable {g p q m nn c : Nat} {s : Ses} {S : Nat → Prop} {w : World}
theorem sfree_any (hS : ∀ k, w.heap.size ≤ k → S k) (h : SR g p q m nn s S w) (hk : s.k ≤ 10000000000) (a : Int) (ha : I64 a) :
    Calls Try.prog 23 #[.pointer (some ⟨g, 0, none⟩), .int .i64 a] w fun e w' => e = .returned (.tuple #[]) ∧ SR g p q m nn (freeS s a) S w' ∧ Many S w w' := by
  obtain ⟨h1, h2⟩ := ha
  obtain ⟨c0, c1, c2, c3, c4, c5, c6, c7, c8, hl⟩ := h.cells
  have hkI : (s.k : Int) ≤ 10000000000 := by omega
  unfold freeS
  by_cases hlt : (s.k : Int) < a
  rotate_left
  · have d1 : decide ((s.k : Int) < a) = false := decide_eq_false hlt
    rw [if_neg hlt]
    have H := Lib.hid h
    clear h hlt
    go_enter Try.func23, Try.ntmps23
    go_wp2
    go_end0
    exact ⟨rfl, H.out, Many.refl S w⟩
  have d1 : decide ((s.k : Int) < a) = true := decide_eq_true hlt
  rw [if_pos hlt]
  obtain ⟨n, hn⟩ : ∃ n, n = min (a - (s.k : Int)).toNat s.W.length := ⟨_, rfl⟩
  have hw : IntKind.i64.wrap (a - (s.k : Int)) = a - (s.k : Int) := by rw [IntKind.wrap_i64]; omega
  have hlen := h.len
  have hnI : (n : Int) ≤ 64 := by omega
  have hw2 : IntKind.i64.wrap ((s.k : Int) + (n : Int)) = (s.k : Int) + (n : Int) := by rw [IntKind.wrap_i64]; omega
  have HE : Hid (({ s with W := s.W.drop (a - (s.k : Int)).toNat, k := s.k + min (a - (s.k : Int)).toNat s.W.length } : Ses) = { s with W := s.W.drop n, k := s.k + n }) := Lib.hid (by
    rw [hn]
    congr 1
    rcases Nat.le_total (a - (s.k : Int)).toNat s.W.length with h | h
    · rw [Nat.min_eq_left h]
    · rw [Nat.min_eq_right h, List.drop_of_length_le h, List.drop_length])
  have HD : Hid (∀ W : World, SR g p q m nn s S W ∧ Many S w W → Calls Try.prog 35 #[.pointer (some ⟨p, 0, none⟩), .int .i64 (a - (s.k : Int))] W fun e w' => e = .returned (.int .i64 n) ∧ SR g p q m nn { s with W := s.W.drop n } S w' ∧ Many S w w') := Lib.hid fun W hW => by
    refine (dropM_any p q 64 s.W (a - (s.k : Int)) n hn W hW.1.ring).mono ?_
    rintro e w' ⟨rfl, hr, ht⟩
    have := SR.turn (fun i hi => hS i (Nat.le_trans hW.2.size hi)) hW.1 (.inl rfl) hr ht
    exact ⟨rfl, this.1, hW.2.trans this.2⟩
  rw [HE.out]
  have H := Lib.hid h
  clear h hlt hn HE hS hlen c0 c1 c2 c3 c6 c7 c8
  go_enter Try.func23, Try.ntmps23
  go_wp2_with fail
  clear c4 c5 d1 hl
  refine wp_region_exV (by kernel_rfl) (ClsD (fun W => SR g p q m nn s S W ∧ Many S w W) (fun W => SR g p q m nn { s with W := s.W.drop n } S W ∧ Many S w W) (fun W => SR g p q m nn { s with W := s.W.drop n, k := s.k + n } S W ∧ Many S w W))
    [[(0, none)], [(10, some 0)], [(11, some 1)], [(12, some 2)], [(0, none)], [(14, some 4)], [(15, some 5)], [(16, some 6)], [(1, none)], [(0, none)], [(19, some 9)], [(20, some 10)], [(21, some 11)], [(18, some 8), (22, some 12)], [(17, some 7), (23, some 13)], [(13, some 3), (24, some 14)], [(10, some 0)], [(26, some 16)], [(25, some 15), (27, some 17)]]
    [none, none, none, none, none, none, none, none, none, none, some 0, some 1, some 2, some 3, some 4, some 5, some 6, some 7, some 8, some 9, some 10, some 11, some 12, some 13, some 14, some 15, some 16, some 17] (by kernel_rfl) (by kernel_rfl) (ClsD.start ⟨H.out.drewN 1, (Many.refl S w).drewN 1⟩) ?_
  iterate 3
    refine exV_pure (c := ?_) (fun _ _ v h => h.pure v (by decide)) ?_ ?_
    rotate_left
    · intro a' d' W hR hF
      simp only [FactsV, List.nil_append, List.cons_append, List.getD_cons_zero, List.getD_cons_succ, exists_eq_left, and_true, true_and, List.getElem?_toArray, List.getElem?_cons_zero, List.getElem?_cons_succ] at hF
      have hl := hR.all (C := fun W => g < W.heap.size) (fun h => h.1.sits.lt) (fun h => h.1.sits.lt) (fun h => h.1.sits.lt)
      refine ⟨?_, ?_⟩
      · simp [Region.wanted, yielded, hF]
      · go_simp
        with_reducible rfl
  refine exV_hand (fun v => v = .int .i64 (s.k : Int)) (fun a' d' W hd hR hF => ?_) ?_
  · skip
    simp only [FactsV, List.nil_append, List.cons_append, List.getD_cons_zero, List.getD_cons_succ, exists_eq_left, and_true, true_and, List.getElem?_toArray, List.getElem?_cons_zero, List.getElem?_cons_succ] at hF
    obtain ⟨c5, hl⟩ := hR.mid (C := fun W => W.cell? ⟨g, 5, none⟩ = some (.int .i64 (s.k : Int)) ∧ g < W.heap.size) hd (fun h => ⟨h.1.cells.2.2.2.2.2.1, h.1.sits.lt⟩) (fun h => ⟨h.1.cells.2.2.2.2.2.1, h.1.sits.lt⟩)
    exact ⟨by simp [Region.wanted, yielded, hF], _, by go_simp <;> rfl, rfl, hR.set3 _⟩
  iterate 8
    refine exV_pure (c := ?_) (fun _ _ v h => h.pure v (by decide)) ?_ ?_
    rotate_left
    · intro a' d' W hR hF
      simp only [FactsV, List.nil_append, List.cons_append, List.getD_cons_zero, List.getD_cons_succ, exists_eq_left, and_true, true_and, List.getElem?_toArray, List.getElem?_cons_zero, List.getElem?_cons_succ] at hF
      have hl := hR.all (C := fun W => g < W.heap.size) (fun h => h.1.sits.lt) (fun h => h.1.sits.lt) (fun h => h.1.sits.lt)
      have c4 := hR.all (C := fun W => W.cell? ⟨g, 4, none⟩ = some (.pointer (some ⟨p, 0, none⟩))) (fun h => h.1.cells.2.2.2.2.1) (fun h => h.1.cells.2.2.2.2.1) (fun h => h.1.cells.2.2.2.2.1)
      refine ⟨?_, ?_⟩
      · simp [Region.wanted, yielded, hF]
      · go_simp
        with_reducible rfl
  refine exV_hand (fun v => v = .int .i64 (s.k : Int)) (fun a' d' W hd hR hF => ?_) ?_
  · skip
    simp only [FactsV, List.nil_append, List.cons_append, List.getD_cons_zero, List.getD_cons_succ, exists_eq_left, and_true, true_and, List.getElem?_toArray, List.getElem?_cons_zero, List.getElem?_cons_succ] at hF
    have hX := hR.first hd
    have c5 := hX.1.cells.2.2.2.2.2.1
    have hl := hX.1.sits.lt
    exact ⟨by simp [Region.wanted, yielded, hF], _, by go_simp <;> rfl, rfl, hR.set12 _⟩
  refine exV_hand (fun v => v = .int .i64 (a - (s.k : Int))) (fun a' d' W hd hR hF => ?_) ?_
  · skip
    simp only [FactsV, List.nil_append, List.cons_append, List.getD_cons_zero, List.getD_cons_succ, exists_eq_left, and_true, true_and, List.getElem?_toArray, List.getElem?_cons_zero, List.getElem?_cons_succ] at hF
    exact ⟨by simp [Region.wanted, yielded, hF], _, by go_simp <;> rfl, rfl, hR.set13 _ (by simp [hF])⟩
  refine exV_callv (fun v => v = .int .i64 (n : Int)) (fun a' d' W hd hR hF => ?_) ?_
  · skip
    simp only [FactsV, List.nil_append, List.cons_append, List.getD_cons_zero, List.getD_cons_succ, exists_eq_left, and_true, true_and, List.getElem?_toArray, List.getElem?_cons_zero, List.getElem?_cons_succ] at hF
    exact ⟨by simp [Region.wanted, yielded, hF], 35, #[.pointer (some ⟨p, 0, none⟩), .int .i64 (a - (s.k : Int))], by go_simp, (HD.out W (hR.early hd)).mono fun r w' ⟨he, hy⟩ => ⟨_, he, hR.call _ hd (by simp [hF]) hy, rfl⟩⟩
  refine exV_hand (fun v => v = .int .i64 ((s.k : Int) + (n : Int))) (fun a' d' W hd hR hF => ?_) ?_
  · skip
    simp only [FactsV, List.nil_append, List.cons_append, List.getD_cons_zero, List.getD_cons_succ, exists_eq_left, and_true, true_and, List.getElem?_toArray, List.getElem?_cons_zero, List.getElem?_cons_succ] at hF
    exact ⟨by simp [Region.wanted, yielded, hF], _, by go_simp <;> rfl, rfl, hR.set15 _ (by simp [hF]) (by simp [hF])⟩
  iterate 2
    refine exV_pure (c := ?_) (fun _ _ v h => h.pure v (by decide)) ?_ ?_
    rotate_left
    · intro a' d' W hR hF
      simp only [FactsV, List.nil_append, List.cons_append, List.getD_cons_zero, List.getD_cons_succ, exists_eq_left, and_true, true_and, List.getElem?_toArray, List.getElem?_cons_zero, List.getElem?_cons_succ] at hF
      have hl := hR.all (C := fun W => g < W.heap.size) (fun h => h.1.sits.lt) (fun h => h.1.sits.lt) (fun h => h.1.sits.lt)
      refine ⟨?_, ?_⟩
      · simp [Region.wanted, yielded, hF]
      · go_simp
        with_reducible rfl
  refine exV_store (fun a' d' W hd hR hF => ?_) ?_
  · skip
    simp only [FactsV, List.nil_append, List.cons_append, List.getD_cons_zero, List.getD_cons_succ, exists_eq_left, and_true, true_and, List.getElem?_toArray, List.getElem?_cons_zero, List.getElem?_cons_succ] at hF
    have hY := hR.y hd (hR.i15 (by simp [hF])).2
    have c5 := hY.1.cells.2.2.2.2.2.1
    have f5 := hY.1.sits.warm 5
    have hl := hY.1.sits.lt
    have hZ := hY.1.cell 5 (.int .i64 ((s.k : Int) + (n : Int))) (s' := { s with W := s.W.drop n, k := s.k + n }) rfl rfl (by simp)
    exact ⟨by simp [Region.wanted, yielded, hF], W.setCell ⟨g, 5, none⟩ (.int .i64 ((s.k : Int) + (n : Int))), by go_simp, hR.store _ (by simp [hF]) ⟨hZ.1, hY.2.trans hZ.2⟩⟩
  show ∀ d W, _ → _ → _
  intro d w5 hA2 hR2
  simp only [FinV, List.nil_append, List.cons_append, List.getD_cons_zero, List.getD_cons_succ, forall_eq, forall_const, true_implies, forall_exists_index, and_imp, Nat.reduceAdd, Array.getD_eq_getD_getElem?, List.getElem?_toArray, List.getElem?_cons_zero, List.getElem?_cons_succ, Option.getD_some]
  have hZ := hR2.z (hA2 18 (by decide))
  have HZ := Lib.hid hZ
  clear hZ hA2 hR2
  intros
  go_wp2
  go_end0
  exact ⟨rfl, HZ.out⟩
theorem shear_any (h : SR g p q m nn s S w) (hn : s.n ≤ 10000000000) (hnn : nn ≤ 1000000000) (b : Int) (hb : I64 b) (d : List UInt8) :
    Calls Try.prog 24 #[.pointer (some ⟨g, 0, none⟩), .int .i64 b, .string (str d)] w fun e w' => e = .returned (.tuple #[]) ∧ (∃ nn', nn' ≤ nn + 1 ∧ SR g p q m nn' (hearS s b d) S w') ∧ Many S w w' := by
  obtain ⟨h1, h2⟩ := hb
  obtain ⟨c0, c1, c2, c3, c4, c5, c6, c7, c8, hl⟩ := h.cells
  have hkI : (s.n : Int) ≤ 10000000000 := by omega
  have HX0 : Hid (∀ W, Below w.heap.size w W → (∃ nn', nn' ≤ nn + 1 ∧ SR g p q m nn' s S W) ∧ Many S w W) := Lib.hid fun W hW => ⟨⟨nn, by omega, h.below hW⟩, Many.of_below S hW⟩
  unfold hearS
  by_cases e1 : b < (s.n : Int) + 1
  · rw [if_pos (.inl e1)]
    have d1 : decide (b < (s.n : Int) + 1) = true := decide_eq_true e1
    clear h e1
    go_enter Try.func24, Try.ntmps24
    go_wp2
    go_returns
    exact ⟨rfl, HX0.out _ (Below.refl _ _)⟩
  have d1 : decide (b < (s.n : Int) + 1) = false := decide_eq_false e1
  have hwx : wrap64 (b - ((s.n : Int) + 1)) = b - ((s.n : Int) + 1) := by unfold wrap64; omega
  by_cases e2 : 64 < b - ((s.n : Int) + 1)
  · rw [if_pos (.inr (.inl e2))]
    have d2 : decide (64 < b - ((s.n : Int) + 1)) = true := decide_eq_true e2
    clear h e2 e1
    go_enter Try.func24, Try.ntmps24
    go_wp2
    go_returns
    exact ⟨rfl, HX0.out _ (Below.refl _ _)⟩
  have d2 : decide (64 < b - ((s.n : Int) + 1)) = false := decide_eq_false e2
  have hlt := h.map.lt
  obtain ⟨W1, hW1⟩ : ∃ W, W = w.alloc (.cells #[.string (str ((s.A b).getD []))] 65) := ⟨_, rfl⟩
  have hb1 : Below w.heap.size w W1 := hW1 ▸ (Below.refl _ w).alloc (Nat.le_refl _) _
  have hr1 := h.below hb1
  obtain ⟨-, -, -, -, -, -, -, b7, -, hl2⟩ := hr1.cells
  cases e3 : s.A b with
  | some x =>
    rw [if_pos (.inr (.inr (by simp)))]
    have hlk := h.map.look_in ⟨h1, h2⟩ e3
    rw [e3] at hW1
    simp only [Option.getD_some] at hW1
    have HX := Lib.hid (HX0.out _ hb1)
    clear h e2 e1 e3 hr1 hb1
    go_enter Try.func24, Try.ntmps24
    go_wp2_with (refine wpList_look rfl (.tmp 27) (.tmp 28) _ _ rfl _ _ _ rfl rfl hlk ?_)
    rw [← hW1]
    go_wp2
    go_end0
    exact ⟨rfl, HX.out⟩
  | none =>
    rw [if_neg (by simp; omega)]
    have hlk := h.map.look_out ⟨h1, h2⟩ e3
    rw [e3] at hW1
    simp only [Option.getD_none] at hW1
    obtain ⟨W2, hput, hm2, ht2⟩ := hr1.map.put ⟨h1, h2⟩ hnn d (A' := fun i => if i = b then some d else s.A i) (fun i => rfl)
    have hr2 := hr1.ahead hm2 ht2
    have HX : Hid ((∃ nn', nn' ≤ nn + 1 ∧ SR g p q m nn' { s with A := fun i => if i = b then some d else s.A i } S W2) ∧ Many S w W2) := Lib.hid ⟨⟨nn + 1, Nat.le_refl _, hr2.1⟩, (Many.of_below S hb1).trans hr2.2⟩
    clear h e2 e1 e3 hr1 hb1 hm2 ht2 hr2
    go_enter Try.func24, Try.ntmps24
    go_wp2_with (refine wpList_look rfl (.tmp 27) (.tmp 28) _ _ rfl _ _ _ rfl rfl hlk ?_)
    rw [← hW1]
    go_wp2_with fail
    rw [hput]
    go_wp2
    go_end0
    exact ⟨rfl, HX.out⟩
end
end Go.Proofs.Ytbpcbdlmkoajdaa
