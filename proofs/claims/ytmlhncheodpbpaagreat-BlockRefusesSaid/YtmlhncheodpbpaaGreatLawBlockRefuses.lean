/- The statement BlockRefuses of package block: what may not be, or stands outside, or is fenced, is refused as the document says, and what is loaded behind it is the same; it holds of every image, every two ints and every epoch. -/
import Derived.Test.YtmlhncheodpbpaaGreatBlkO
import Derived.ChangeOld
namespace Go.Proofs.YtmlhncheodpbpaaGreat
open Go Go.RowKit SupP DskP RdkP Go.ChangeShapes Go.WideShapes Go.ChangeAt
set_option maxRecDepth 100000
set_option maxHeartbeats 2000000
set_option linter.unusedSimpArgs false

theorem blockRefuses_long (i : Im) (n node : Int) (ep : Nat) (w : World) (h : 300 < i.d.length) :
    Calls Tryz.prog 5 #[aggI i, .int .i64 n, .int .i64 node, .int .u64 (ep : Int)] w fun e w' => e = .returned (.bool true) ∧ Below w.heap.size w w' := by
  have HA := Lib.hid alive10_any
  obtain ⟨ib, iv, d⟩ := i
  unfold aggI
  simp only at h ⊢
  have d1 : decide (300 < ((str d).size : Int)) = true := decide_eq_true (by rw [str_size]; omega)
  clear h
  go_enter Tryz.func5, Tryz.ntmps5
  go_wp2_with fail
  (with_reducible refine (HA.out _).mono ?_)
  rintro e w1 ⟨rfl, hb⟩
  have HF := Lib.hid (((Below.refl w.heap.size w).alloc (Nat.le_refl _) _).trans (hb.mono (by simp)))
  clear hb
  go_wp2
  go_ret
  exact ⟨rfl, HF.out⟩
/-- Both disks, and the layout. -/
abbrev RefS (p q g : Nat) (D : Dsk) (R : Rdk) (wa W : World) : Prop := Has (Both (Both (DP p D) (RP q R)) (CellAt g 39 layC)) wa W
theorem RefS.lay {p q g : Nat} {D : Dsk} {R : Rdk} {wa W : World} (h : RefS p q g D R wa W) : Sits W g 39 layC := (h.snd (holdC _ _ _)).here.2
theorem blockRefuses_short (i : Im) (n node : Int) (ep : Nat) (w : World) (hv : (i.v : Int) < 18446744073709551616) (h1 : ¬ 300 < i.d.length) :
    Calls Tryz.prog 5 #[aggI i, .int .i64 n, .int .i64 node, .int .u64 (ep : Int)] w fun e w' => e = .returned (.bool true) ∧ Below w.heap.size w w' := by
  have hsim := sim_ready.store alSh node ep i
  have hload := hsim.2.load alSh n
  have hcnt : rdyD.count ≤ 1000000 := by have := rdy_is.count; omega
  have HSD : Hid (∀ p, Turns (DP p rdyD) (DP p (storeD rdyD alSh node ep i).2) 15 #[.pointer (some ⟨p, 0, none⟩), aggH alSh, .int .i64 node, .int .u64 (ep : Int), aggI i] (.returned (.int .i64 ((storeD rdyD alSh node ep i).1 : Int)))) := Lib.hid fun p => bstore_any p rdyD alSh alSh_valid node ep i hv hcnt
  have HSR : Hid (∀ q, Turns (RP q rdR5) (RP q (storeR rdR5 alSh node ep i).2) 20 #[.pointer (some ⟨q, 0, none⟩), aggH alSh, .int .i64 node, .int .u64 (ep : Int), aggI i] (.returned (.int .i64 ((storeR rdR5 alSh node ep i).1 : Int)))) := Lib.hid fun q => rstore_any q rdR5 alSh alSh_valid node ep i hv rfl (by decide)
  rw [← hsim.1] at HSR
  have HLD : Hid (∀ (p : Nat) (wa W : World), Has (DP p (storeD rdyD alSh node ep i).2) wa W → Calls Tryz.prog 17 #[.pointer (some ⟨p, 0, none⟩), aggH alSh, .int .i64 n] W fun e w' => e = .returned (.tuple #[aggI (loadD (storeD rdyD alSh node ep i).2 alSh n).1, .int .i64 ((loadD (storeD rdyD alSh node ep i).2 alSh n).2 : Int)]) ∧ Below W.heap.size W w') := Lib.hid fun p wa W hW => bload_any p _ alSh alSh_valid n W hW.here
  have HLR : Hid (∀ (q : Nat) (wa W : World), Has (RP q (storeR rdR5 alSh node ep i).2) wa W → Calls Tryz.prog 21 #[.pointer (some ⟨q, 0, none⟩), aggH alSh, .int .i64 n] W fun e w' => e = .returned (.tuple #[aggI (loadR (storeR rdR5 alSh node ep i).2 alSh n).1, .int .i64 ((loadR (storeR rdR5 alSh node ep i).2 alSh n).2 : Int)]) ∧ Below W.heap.size W w') := Lib.hid fun q wa W hW => rload_any q _ alSh alSh_valid n W hW.here
  rw [← hload] at HLR
  have HLN : Hid (∀ W : World, Calls Tryz.prog 17 #[.pointer none, aggH alSh, .int .i64 0] W fun e w' => e = .returned (.tuple #[.agg #[.int .i64 0, .int .u64 0, .string ⟨#[]⟩], .int .i64 14]) ∧ Below W.heap.size W w') := Lib.hid fun W => bload_nil alSh alSh_valid 0 W
  have HA := Lib.hid alive10_any
  have HRD := Lib.hid ready_any
  have HHD := Lib.hid holdD
  have HHR := Lib.hid holdR
  have HHC := Lib.hid holdC
  obtain ⟨⟨sr, SD⟩, hSD⟩ : ∃ x, x = storeD rdyD alSh node ep i := ⟨_, rfl⟩
  obtain ⟨⟨sr2, SR⟩, hSR⟩ : ∃ x, x = storeR rdR5 alSh node ep i := ⟨_, rfl⟩
  rw [← hSD] at HSD HSR HLD HLR
  rw [← hSR] at HSR HLR
  simp only at HSD HSR HLD HLR
  obtain ⟨⟨⟨lb, lv, ld⟩, le⟩, hL⟩ : ∃ x, x = loadD SD alSh n := ⟨_, rfl⟩
  rw [← hL] at HLD HLR
  obtain ⟨D0, hD0⟩ : ∃ D, D = rdyD := ⟨_, rfl⟩
  obtain ⟨R0, hR0⟩ : ∃ R, R = rdR5 := ⟨_, rfl⟩
  rw [← hD0, ← hR0] at HRD
  rw [← hD0] at HSD
  rw [← hR0] at HSR
  obtain ⟨ib, iv, d⟩ := i
  have d1 : decide (300 < ((str d).size : Int)) = false := decide_eq_false (by rw [str_size]; exact fun e => h1 (by simpa using (by omega : 300 < d.length)))
  clear hsim hload hcnt hv h1 hSD hSR hL hD0 hR0
  unfold aggI at HSD HSR HLD HLR ⊢
  unfold aggH alSh at HSD HSR HLD HLR HLN HRD
  simp only at HSD HSR HLD HLR HLN HRD ⊢
  generalize str d = E at *
  generalize str ld = LD at *
  obtain ⟨wa, hwa⟩ : ∃ wa, wa = w.alloc (.cells #[.int .i64 ib, .int .u64 (iv : Int), .string E] 24) := ⟨_, rfl⟩
  have HS : Hid (Sits wa w.heap.size 24 #[.int .i64 ib, .int .u64 (iv : Int), .string E]) := Lib.hid (hwa ▸ Sits.fresh w _ _)
  have HB : Hid (Below w.heap.size w wa) := Lib.hid (hwa ▸ (Below.refl _ w).alloc (Nat.le_refl _) _)
  go_enter Tryz.func5, Tryz.ntmps5
  go_wp2_with fail
  rw [← hwa]
  clear hwa
  (with_reducible refine (HRD.out _).mono ?_)
  rintro e w1 ⟨p, q, rfl, ho⟩
  have HO1 := Lib.hid ho
  clear ho
  obtain ⟨w2, hw2⟩ : ∃ w2, w2 = w1.alloc (.cells #[.int .i64 2, .int .i64 10, .int .i64 8, .int .i64 4, .int .i64 32] 39) := ⟨_, rfl⟩
  obtain ⟨g, hg⟩ : ∃ g, g = w1.heap.size := ⟨_, rfl⟩
  have HAB := Lib.hid ((HHD.out p D0).both (HHR.out q R0))
  have HO2 : Hid (RefS p q g D0 R0 wa w2) := Lib.hid (HO1.out.with_ HAB.out ⟨⟨by rw [hg]; exact Nat.le_refl _, by rw [hw2, hg]; exact Sits.fresh w1 _ _⟩, by rw [hw2]; exact (Below.refl _ w1).alloc (Nat.le_refl _) _⟩)
  clear HO1
  go_wp2_with fail
  rw [← hw2, ← hg]
  clear hw2 hg
  have HO3 : Hid (RefS p q g D0 R0 wa w2.drew) := Lib.hid (HO2.out.down (HAB.out.both (HHC.out g _ _)) (Below.refl _ _).drew)
  clear HO2
  refine wp_region_exV (by kernel_rfl) (Cls 5 12 (RefS p q g D0 R0 wa) (RefS p q g SD R0 wa) (RefS p q g SD SR wa))
    [[(9, none)], [(11, none)], [(2, none)], [(3, none)], [(4, none)], [(34, some 0), (35, some 1), (36, some 2), (37, some 3), (38, some 4)], [(10, none)], [(11, none)], [(41, some 7)], [(2, none)], [(3, none)], [(4, none)], [(39, some 5), (40, some 6), (42, some 8), (43, some 9), (44, some 10), (45, some 11)], [(39, some 5)], [(46, some 12)]]
    [none, none, none, none, none, none, none, none, none, none, none, none, none, some 13, some 14, none, none, none, none, none, none, none, none, none, none, none, none, none, none, none, none, none, none, none, some 0, some 1, some 2, some 3, some 4, some 5, some 6, some 7, some 8, some 9, some 10, some 11, some 12, none, none, none, none, none, none, none, none, none, none, none, none, none, none, none, none, none, none, none, none, none, none, none, none, none, none, none, none, none, none, none, none, none, none, none, none, none, none, none, none] (by kernel_rfl) (by kernel_rfl) (Cls.start HO3.out) ?_
  iterate 5
    refine exV_pure (c := ?_) (fun _ _ _ h => h.pure (by decide) (by decide)) ?_ ?_
    rotate_left
    · intro a' d' W hR hF
      simp only [FactsV, List.nil_append, List.cons_append, List.getD_cons_zero, List.getD_cons_succ, exists_eq_left, and_true, true_and, List.getElem?_toArray, List.getElem?_cons_zero, List.getElem?_cons_succ] at hF
      have hc := hR.all (C := fun W => Sits W g 39 layC ∧ Below wa.heap.size wa W) (fun _ h => ⟨RefS.lay h, h.below⟩) (fun _ h => ⟨RefS.lay h, h.below⟩) (fun _ h => ⟨RefS.lay h, h.below⟩)
      have hi := HS.out.below' hc.2
      have c0 : W.cell? ⟨g, 0, none⟩ = some (.int .i64 2) := hc.1.cell 0
      have c1 : W.cell? ⟨g, 1, none⟩ = some (.int .i64 10) := hc.1.cell 1
      have c2 : W.cell? ⟨g, 2, none⟩ = some (.int .i64 8) := hc.1.cell 2
      have c3 : W.cell? ⟨g, 3, none⟩ = some (.int .i64 4) := hc.1.cell 3
      have c4 : W.cell? ⟨g, 4, none⟩ = some (.int .i64 32) := hc.1.cell 4
      have e0 : W.cell? ⟨w.heap.size, 0, none⟩ = some (.int .i64 ib) := hi.cell 0
      have e1 : W.cell? ⟨w.heap.size, 1, none⟩ = some (.int .u64 (iv : Int)) := hi.cell 1
      have e2 : W.cell? ⟨w.heap.size, 2, none⟩ = some (.string E) := hi.cell 2
      refine ⟨?_, ?_⟩
      · simp [Region.wanted, yielded, hF]
      · go_simp
        with_reducible rfl
  refine exV_callv (fun x => x = .int .i64 (sr : Int)) (fun a' d' W hd hR hF => ?_) ?_
  · skip
    simp only [FactsV, List.nil_append, List.cons_append, List.getD_cons_zero, List.getD_cons_succ, exists_eq_left, and_true, true_and, List.getElem?_toArray, List.getElem?_cons_zero, List.getElem?_cons_succ] at hF
    have hR0 := hR.ahead hd
    exact ⟨by simp [Region.wanted, yielded, hF], 15, #[.pointer (some ⟨p, 0, none⟩), .agg #[.int .i64 2, .int .i64 10, .int .i64 8, .int .i64 4, .int .i64 32], .int .i64 node, .int .u64 (ep : Int), .agg #[.int .i64 ib, .int .u64 (iv : Int), .string E]], by go_simp, (Turns.has (Turns.left HAB.out (HHC.out g _ _) (Turns.left (HHD.out p D0) (HHR.out q R0) (HSD.out p))) hR0).mono fun e w' ⟨he, ho⟩ => ⟨_, he, hR.one hd (by decide) ho, rfl⟩⟩
  iterate 6
    refine exV_pure (c := ?_) (fun _ _ _ h => h.pure (by decide) (by decide)) ?_ ?_
    rotate_left
    · intro a' d' W hR hF
      simp only [FactsV, List.nil_append, List.cons_append, List.getD_cons_zero, List.getD_cons_succ, exists_eq_left, and_true, true_and, List.getElem?_toArray, List.getElem?_cons_zero, List.getElem?_cons_succ] at hF
      have hc := hR.all (C := fun W => Sits W g 39 layC ∧ Below wa.heap.size wa W) (fun _ h => ⟨RefS.lay h, h.below⟩) (fun _ h => ⟨RefS.lay h, h.below⟩) (fun _ h => ⟨RefS.lay h, h.below⟩)
      have hi := HS.out.below' hc.2
      have c0 : W.cell? ⟨g, 0, none⟩ = some (.int .i64 2) := hc.1.cell 0
      have c1 : W.cell? ⟨g, 1, none⟩ = some (.int .i64 10) := hc.1.cell 1
      have c2 : W.cell? ⟨g, 2, none⟩ = some (.int .i64 8) := hc.1.cell 2
      have c3 : W.cell? ⟨g, 3, none⟩ = some (.int .i64 4) := hc.1.cell 3
      have c4 : W.cell? ⟨g, 4, none⟩ = some (.int .i64 32) := hc.1.cell 4
      have e0 : W.cell? ⟨w.heap.size, 0, none⟩ = some (.int .i64 ib) := hi.cell 0
      have e1 : W.cell? ⟨w.heap.size, 1, none⟩ = some (.int .u64 (iv : Int)) := hi.cell 1
      have e2 : W.cell? ⟨w.heap.size, 2, none⟩ = some (.string E) := hi.cell 2
      refine ⟨?_, ?_⟩
      · simp [Region.wanted, yielded, hF]
      · go_simp
        with_reducible rfl
  refine exV_callv (fun x => x = .int .i64 (sr : Int)) (fun a' d' W hd hR hF => ?_) ?_
  · skip
    simp only [FactsV, List.nil_append, List.cons_append, List.getD_cons_zero, List.getD_cons_succ, exists_eq_left, and_true, true_and, List.getElem?_toArray, List.getElem?_cons_zero, List.getElem?_cons_succ] at hF
    have hR1 := hR.between hF.1.2 hd
    exact ⟨by simp [Region.wanted, yielded, hF], 20, #[.pointer (some ⟨q, 0, none⟩), .agg #[.int .i64 2, .int .i64 10, .int .i64 8, .int .i64 4, .int .i64 32], .int .i64 node, .int .u64 (ep : Int), .agg #[.int .i64 ib, .int .u64 (iv : Int), .string E]], by go_simp, (Turns.has (Turns.left ((HHD.out p SD).both (HHR.out q R0)) (HHC.out g _ _) (Turns.right (HHD.out p SD) (HHR.out q R0) (HSR.out q))) hR1).mono fun e w' ⟨he, ho⟩ => ⟨_, he, Cls.two hF.1.2 (by decide) ho, rfl⟩⟩
  iterate 2
    refine exV_pure (c := ?_) (fun _ _ _ h => h.pure (by decide) (by decide)) ?_ ?_
    rotate_left
    · intro a' d' W hR hF
      simp only [FactsV, List.nil_append, List.cons_append, List.getD_cons_zero, List.getD_cons_succ, exists_eq_left, and_true, true_and, List.getElem?_toArray, List.getElem?_cons_zero, List.getElem?_cons_succ] at hF
      refine ⟨?_, ?_⟩
      · simp [Region.wanted, yielded, hF]
      · go_simp
        with_reducible rfl
  show ∀ d W, _ → _ → _
  intro d w3 hA2 hR2
  simp only [FinV, List.nil_append, List.cons_append, List.getD_cons_zero, List.getD_cons_succ, forall_eq, forall_const, true_implies, forall_exists_index, and_imp, Nat.reduceAdd, Array.getD_eq_getD_getElem?, List.getElem?_toArray, List.getElem?_cons_zero, List.getElem?_cons_succ, Option.getD_some]
  have HO4 := Lib.hid (hR2.done (hA2 12 (by decide)))
  clear hR2 hA2
  intros
  have HAC := Lib.hid (((HHD.out p SD).both (HHR.out q SR)).both (HHC.out g 39 layC))
  have HB3 := Lib.hid (HB.out.trans (HO4.out.below.mono HB.out.size))
  have hs := RefS.lay HO4.out
  have c0 : w3.cell? ⟨g, 0, none⟩ = some (.int .i64 2) := hs.cell 0
  have c1 : w3.cell? ⟨g, 1, none⟩ = some (.int .i64 10) := hs.cell 1
  have c2 : w3.cell? ⟨g, 2, none⟩ = some (.int .i64 8) := hs.cell 2
  have c3 : w3.cell? ⟨g, 3, none⟩ = some (.int .i64 4) := hs.cell 3
  have c4 : w3.cell? ⟨g, 4, none⟩ = some (.int .i64 32) := hs.cell 4
  clear hs
  go_wp2_with fail
  clear c0 c1 c2 c3 c4
  (with_reducible refine (HLD.out _ _ _ ((HO4.out.fst ((HHD.out p SD).both (HHR.out q SR))).fst (HHD.out p SD))).mono ?_)
  rintro e w4 ⟨rfl, hb⟩
  have HO5 := Lib.hid (HO4.out.down HAC.out hb)
  have HB5 := Lib.hid (HB3.out.trans (hb.mono HB3.out.size))
  clear hb HO4 HB3
  obtain ⟨w5, hw5⟩ : ∃ x, x = w4.alloc (.cells #[.int .i64 lb, .int .u64 (lv : Int), .string LD] 24) := ⟨_, rfl⟩
  obtain ⟨ga, hga⟩ : ∃ x, x = w4.heap.size := ⟨_, rfl⟩
  have hba : Below w4.heap.size w4 w5 := hw5 ▸ (Below.refl _ w4).alloc (Nat.le_refl _) _
  have HO6 := Lib.hid (HO5.out.down HAC.out hba)
  have HB6 := Lib.hid (HB5.out.trans (hba.mono HB5.out.size))
  have KA6 : Hid (Sits w5 ga 24 #[.int .i64 lb, .int .u64 (lv : Int), .string LD]) := Lib.hid (by rw [hw5, hga]; exact Sits.fresh w4 _ _)
  have hs := RefS.lay HO6.out
  have c0 : w5.cell? ⟨g, 0, none⟩ = some (.int .i64 2) := hs.cell 0
  have c1 : w5.cell? ⟨g, 1, none⟩ = some (.int .i64 10) := hs.cell 1
  have c2 : w5.cell? ⟨g, 2, none⟩ = some (.int .i64 8) := hs.cell 2
  have c3 : w5.cell? ⟨g, 3, none⟩ = some (.int .i64 4) := hs.cell 3
  have c4 : w5.cell? ⟨g, 4, none⟩ = some (.int .i64 32) := hs.cell 4
  clear hs
  rw [hw5] at c0 c1 c2 c3 c4
  clear hba HO5 HB5
  go_wp2_with fail
  rw [← hw5, ← hga]
  clear hw5 hga c0 c1 c2 c3 c4
  (with_reducible refine (HLR.out _ _ _ ((HO6.out.fst ((HHD.out p SD).both (HHR.out q SR))).snd (HHR.out q SR))).mono ?_)
  rintro e w6 ⟨rfl, hb⟩
  have HO7 := Lib.hid (HO6.out.down HAC.out hb)
  have HB7 := Lib.hid (HB6.out.trans (hb.mono HB6.out.size))
  have KA7 := Lib.hid (KA6.out.below' hb)
  clear hb HO6 HB6 KA6
  obtain ⟨w7, hw7⟩ : ∃ x, x = w6.alloc (.cells #[.int .i64 lb, .int .u64 (lv : Int), .string LD] 24) := ⟨_, rfl⟩
  obtain ⟨gb, hgb⟩ : ∃ x, x = w6.heap.size := ⟨_, rfl⟩
  have hba : Below w6.heap.size w6 w7 := hw7 ▸ (Below.refl _ w6).alloc (Nat.le_refl _) _
  have HO8 := Lib.hid (HO7.out.down HAC.out hba)
  have HB8 := Lib.hid (HB7.out.trans (hba.mono HB7.out.size))
  have KA8 := Lib.hid (KA7.out.below' hba)
  have KB8 : Hid (Sits w7 gb 24 #[.int .i64 lb, .int .u64 (lv : Int), .string LD]) := Lib.hid (by rw [hw7, hgb]; exact Sits.fresh w6 _ _)
  have hs := RefS.lay HO8.out
  have c0 : w7.cell? ⟨g, 0, none⟩ = some (.int .i64 2) := hs.cell 0
  have c1 : w7.cell? ⟨g, 1, none⟩ = some (.int .i64 10) := hs.cell 1
  have c2 : w7.cell? ⟨g, 2, none⟩ = some (.int .i64 8) := hs.cell 2
  have c3 : w7.cell? ⟨g, 3, none⟩ = some (.int .i64 4) := hs.cell 3
  have c4 : w7.cell? ⟨g, 4, none⟩ = some (.int .i64 32) := hs.cell 4
  clear hs
  rw [hw7] at c0 c1 c2 c3 c4
  clear hba HO7 HB7 KA7
  go_wp2_with fail
  rw [← hw7, ← hgb]
  clear hw7 hgb c0 c1 c2 c3 c4
  (with_reducible refine (HLN.out _).mono ?_)
  rintro e w8 ⟨rfl, hb⟩
  have HB9 := Lib.hid (HB8.out.trans (hb.mono HB8.out.size))
  have KA9 := Lib.hid (KA8.out.below' hb)
  have KB9 := Lib.hid (KB8.out.below' hb)
  clear hb HO8 HB8 KA8 KB8
  obtain ⟨w9, hw9⟩ : ∃ x, x = w8.alloc (.cells #[.int .i64 0, .int .u64 0, .string ⟨#[]⟩] 24) := ⟨_, rfl⟩
  have hba : Below w8.heap.size w8 w9 := hw9 ▸ (Below.refl _ w8).alloc (Nat.le_refl _) _
  have HB10 := Lib.hid (HB9.out.trans (hba.mono HB9.out.size))
  have KA10 := Lib.hid (KA9.out.below' hba)
  have KB10 := Lib.hid (KB9.out.below' hba)
  clear hba HB9 KA9 KB9
  go_wp2_with fail
  rw [← hw9]
  clear hw9
  (with_reducible refine (HA.out _).mono ?_)
  rintro e w10 ⟨rfl, hb⟩
  have ka := KA10.out.below' hb
  have kb := KB10.out.below' hb
  have HB11 := Lib.hid (HB10.out.trans (hb.mono HB10.out.size))
  have c0 : w10.cell? ⟨ga, 0, none⟩ = some (.int .i64 lb) := ka.cell 0
  have c1 : w10.cell? ⟨ga, 1, none⟩ = some (.int .u64 (lv : Int)) := ka.cell 1
  have c2 : w10.cell? ⟨ga, 2, none⟩ = some (.string LD) := ka.cell 2
  have e0 : w10.cell? ⟨gb, 0, none⟩ = some (.int .i64 lb) := kb.cell 0
  have e1 : w10.cell? ⟨gb, 1, none⟩ = some (.int .u64 (lv : Int)) := kb.cell 1
  have e2 : w10.cell? ⟨gb, 2, none⟩ = some (.string LD) := kb.cell 2
  clear hb ka kb
  go_wp2
  go_ret
  exact ⟨rfl, HB11.out⟩
theorem blockRefuses_walk (v : Value) (i : Im) (n : Int) (_wn : (Lit.int .i64 n).wf = true) (node : Int) (_wd : (Lit.int .i64 node).wf = true) (e : Int) (we : (Lit.int .u64 e).wf = true) (w : World) (hi : ImIn i ∧ v = aggI i) :
    Calls Tryz.prog 5 #[v, .int .i64 n, .int .i64 node, .int .u64 e] w fun e w' => e = .returned (.bool true) ∧ Below w.heap.size w w' := by
  obtain ⟨hi, rfl⟩ := hi
  obtain ⟨ep, rfl, -⟩ := wf_u64 we
  by_cases h : 300 < i.d.length
  · exact blockRefuses_long i n node ep w h
  · exact blockRefuses_short i n node ep w hi.v h

set_option maxRecDepth 100000 in
theorem blockRefuses_lifted (os : Os) (started : os.Started) (H : Type) (enc : TypeId × Value → H) :
    ReturnsInHanded {} Tryz.checked os 5 .any (Rows.blockRefusesSpec.pre6 enc Tryz.prog Tryz.f5 Rows.blockRefusesRow.domain false) (Rows.blockRefusesSpec.post enc Tryz.prog Tryz.f5 false true false false) := by
  refine returnsInHanded_of_change (C := Tryz.checked) own started (by kernel_rfl) Tryz.func5
    (ChangeSpec.witness6 (enc := enc) (C := Tryz.checked) false ⟨#[], #[.agg #[.int .i64 0, .int .u64 0, .string ByteArray.empty], .int .i64 0, .int .i64 0, .int .u64 0], []⟩ 8 (by kernel_rfl) (by kernel_rfl) (by kernel_rfl) (by kernel_rfl)) ?_
  intro W base args ds gs before hval0 hW _ _
  have hval : ∀ (j : Nat) t v, Tryz.f5.params[j]? = some t → args[j]? = some v → Value.okWide Tryz.prog W .any base t v := hval0
  have hW' := hW
  obtain ⟨p, q, hA0, hV, rfl, hfz, hnd⟩ := hW
  have hA : DataW.TrodAll enc Tryz.prog W 0 (fun _ => true) true Tryz.f5.params.toList args.toList ds p := hA0
  rw [Tryz.params5] at hA hval
  obtain ⟨v0, vs0, d0, ds0, p0, q0, hargs, rfl, rfl, h0, r0⟩ := trodAll_cons hA
  obtain ⟨v1, vs1, d1, ds1, p1, q1, rfl, rfl, rfl, h1, r1⟩ := trodAll_cons r0
  obtain ⟨v2, vs2, d2, ds2, p2, q2, rfl, rfl, rfl, h2, r2⟩ := trodAll_cons r1
  obtain ⟨v3, vs3, d3, ds3, p3, q3, rfl, rfl, rfl, h3, r3⟩ := trodAll_cons r2
  obtain ⟨rfl, rfl, rfl⟩ := trodAll_nil r3
  obtain rfl : args = #[v0, v1, v2, v3] := by cases args; simp_all
  obtain ⟨rfl, rfl⟩ := trodVars_none hV
  have k0 := h0
  have lt0 : ∀ x ∈ p0, x.block < W.heap.size := by obtain ⟨m, hm⟩ := k0; exact DataW.trod_lt m _ _ _ hm
  have k1 := h1
  have lt1 : ∀ x ∈ p1, x.block < W.heap.size := by obtain ⟨m, hm⟩ := k1; exact DataW.trod_lt m _ _ _ hm
  have k2 := h2
  have lt2 : ∀ x ∈ p2, x.block < W.heap.size := by obtain ⟨m, hm⟩ := k2; exact DataW.trod_lt m _ _ _ hm
  have k3 := h3
  have lt3 : ∀ x ∈ p3, x.block < W.heap.size := by obtain ⟨m, hm⟩ := k3; exact DataW.trod_lt m _ _ _ hm
  obtain ⟨a0, w0⟩ := image_open (hval 0 24 v0 rfl rfl) k0
  obtain ⟨a1, rfl, rfl, rfl, w1⟩ := open_int Tryz.underlying3 (hval 1 3 v1 rfl rfl) h1
  obtain ⟨a2, rfl, rfl, rfl, w2⟩ := open_int Tryz.underlying3 (hval 2 3 v2 rfl rfl) h2
  obtain ⟨a3, rfl, rfl, rfl, w3⟩ := open_int Tryz.underlying22 (hval 3 22 v3 rfl rfl) h3
  clear hA0 hval0
  refine (blockRefuses_walk v0 a0 a1 w1 a2 w2 a3 w3 W w0).mono fun e W' ⟨he, bel⟩ => ?_
  subst he
  exact ⟨_, rfl, _, _, _, [], _, [], hW', trodAll_mk1 (shut_bool Tryz.underlying4 _), (trodAll_cons_mk (Below.trod laidOut (by kernel_rfl) (of_decide_eq_true (by kernel_rfl)) k0 bel lt0) (trodAll_cons_mk (Below.trod laidOut (by kernel_rfl) (of_decide_eq_true (by kernel_rfl)) k1 bel lt1) (trodAll_cons_mk (Below.trod laidOut (by kernel_rfl) (of_decide_eq_true (by kernel_rfl)) k2 bel lt2) (trodAll_cons_mk (Below.trod laidOut (by kernel_rfl) (of_decide_eq_true (by kernel_rfl)) k3 bel lt3) trodAll_mk0)))), rfl, bel.frame _, fun h => by cases h⟩

theorem blockRefuses_said : Rows.BlockRefusesSaid :=
  OpenClaim.holds_of_wide 5 Tryz.f5 rfl rfl rfl rfl rfl rfl rfl ⟨rfl, rfl, rfl, rfl, rfl⟩ rfl rfl rfl rfl rfl (by kernel_rfl) Tryz.func5 (by kernel_rfl)
    (of_decide_eq_true (by kernel_rfl)) (by unfold Func.isWrapper; first | (rw [if_pos (by decide +kernel)]; kernel_rfl) | (rw [if_neg (by decide +kernel)]; exact ⟨rfl, rfl⟩))
    (fun os started H enc _ => blockRefuses_lifted os started H enc)
#print axioms blockRefuses_said
end Go.Proofs.YtmlhncheodpbpaaGreat
