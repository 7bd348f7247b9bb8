/- The document's net (commonsref14.Net) in memory: Take, Cut. -/
import Derived.Test.YtkfbljbhdjnggaaNetU
namespace Go.Proofs.Ytkfbljbhdjnggaa
open Go Go.RowKit NetP
set_option maxRecDepth 100000
set_option maxHeartbeats 1000000
set_option linter.unusedSimpArgs false

theorem RN.beside {r g : Nat} {L : List Pk} {C : List (Int × Int)} {S : Nat → Prop} {w : World} (h : RN r L C S w) (hg : ¬ S g) (i : Nat) (v : Value) : RN r L C S (w.setCell ⟨g, i, none⟩ v) :=
  (holdRN r L C).keep h fun k hk _ => Below.heap_setCell _ _ _ _ (show k ≠ g from fun e => hg (e ▸ hk))
theorem elemE : Elem Try.prog 28 62 (.agg #[.int .i64 0, .int .i64 0]) 2 16 := ⟨Try.underlying28, by kernel_rfl, rfl, by omega⟩
theorem push_e {W : World} {base g : Nat} {v : Value} {n : Nat} {xs : List Value} (h : RowAt W base 62 2 v n xs) (x : Int × Int) (hg : Sits W g 62 #[.int .i64 x.1, .int .i64 x.2]) (hb : base ≤ W.heap.size) (hl : n ≤ 1000000000) (ty : TypeId) :
    ∃ v' W', (Builtin.append_ #[28, 28] ty #[v, .slice (some ⟨g, 0, none⟩) 1 1]).run Try.prog W = .ok v' W' ∧
      RowAt W' base 62 2 v' (n + 1) (xs ++ encE x) ∧ Below base W W' := by
  have hmx : maxLen = 9223372036854775807 := by decide
  have hsrc : Src Try.prog 2 28 (.slice (some ⟨g, 0, none⟩) 1 1) 1 (encE x) W := src_slice Try.underlying28 rfl (fun _ => ⟨g, 0, rfl, fun j u hu => by
    rw [Nat.zero_add, hg.cell j]
    simpa [encE] using hu⟩) (by simp [encE, Value.oneCell'])
  obtain ⟨v3, w3, hr3, hX4, gr3, at3⟩ := appendAt_src elemE h hsrc ty (by omega) (by omega) hb
  exact ⟨v3, w3, hr3, hX4, (Below.refl base W).grown gr3 hb (fun k hk => (h.lt k hk).1)⟩
theorem cut_snoc (F : List (Int × Int)) (x : Int × Int) : (F ++ [x]).flatMap encE = F.flatMap encE ++ encE x := by rw [List.flatMap_append]; simp
theorem rcut_any {r : Nat} {L : List Pk} {C : List (Int × Int)} {S : Nat → Prop} {w : World} (hS : ∀ k, w.heap.size ≤ k → S k) (h : RN r L C S w) (a b : Int) (on : Bool) (hC : C.length ≤ 100000) :
    Calls Try.prog 24 #[.pointer (some ⟨r, 0, none⟩), .int .i64 a, .int .i64 b, .bool on] w fun e w' => e = .returned (.tuple #[]) ∧ RN r L (cutF C a b on) S w' ∧ Many S w w' := by
  obtain ⟨u, c, hs, hr, hu, hu2, hc, hc2⟩ := h
  have hes := row_e hc
  obtain ⟨E, ecap, rfl, -⟩ := hc.form
  obtain ⟨E', ecap', he, -, -, h3⟩ := hes
  injection he with he1 _ he2
  subst he1 he2
  have HE : Hid (∀ i (hi : i < C.length), ∃ g q, E = some ⟨g, q, none⟩ ∧ g < w.heap.size ∧ w.cell? ⟨g, q + i * 2, none⟩ = some (.int .i64 C[i].1) ∧ w.cell? ⟨g, q + i * 2 + 1, none⟩ = some (.int .i64 C[i].2)) := Lib.hid fun i hi => by
    obtain ⟨g, q, e1, e2, e3⟩ := h3 i hi
    exact ⟨g, q, e1, e2, e3 0 _ rfl, e3 1 _ rfl⟩
  have c1 : w.cell? ⟨r, 1, none⟩ = some (.slice E C.length ecap) := hs.cell 1
  have hrl := hs.lt
  have HR : Hid (∀ W, Below w.heap.size w W → W.cell? ⟨r, 1, none⟩ = some (.slice E C.length ecap) ∧ r < W.heap.size) := Lib.hid fun W hW => ⟨(hW.cell (p := ⟨r, 1, none⟩) hrl).trans c1, Nat.lt_of_lt_of_le hrl hW.size⟩
  have HK := Lib.hid (And.intro hs (And.intro hr (And.intro hu (And.intro hu2 hS))))
  have hCI : (C.length : Int) ≤ 100000 := by omega
  have HEN : Hid (∀ W : World, Calls Try.prog 34 #[.int .i64 a, .int .i64 b] W fun e w' => e = .returned (.agg #[.int .i64 (endsP a b).1, .int .i64 (endsP a b).2]) ∧ Below W.heap.size W w') := Lib.hid fun W => rends_any a b W
  have hcf : cutF C a b on = C.filter (fun x => decide (x ≠ endsP a b)) ++ if on = true then [endsP a b] else [] := rfl
  rw [hcf]
  clear hcf
  obtain ⟨y, hy⟩ : ∃ y, y = endsP a b := ⟨_, rfl⟩
  rw [← hy] at HEN ⊢
  clear hy hs hr hu hu2 hc hc2 h3 hC hS
  obtain ⟨y1, y2⟩ := y
  simp only at HEN
  obtain ⟨G, hG⟩ : ∃ G, G = C.filter (fun x => decide (x ≠ (y1, y2))) ++ if on = true then [(y1, y2)] else [] := ⟨_, rfl⟩
  rw [← hG]
  have HG := Lib.hid hG
  clear hG
  have HFIN : Hid (∀ (W : World) (v : Value) (F : List (Int × Int)), Below w.heap.size w W → RowAt W w.heap.size 62 2 v F.length (F.flatMap encE) → RN r L F S (W.setCell ⟨r, 1, none⟩ v) ∧ Many S w (W.setCell ⟨r, 1, none⟩ v)) := Lib.hid fun W v F hb hv => RN.cuts HK.out.1 HK.out.2.1 HK.out.2.2.1 HK.out.2.2.2.1 HK.out.2.2.2.2 hb hv
  have HW1 : Hid (∀ W, Below w.heap.size w W → W.frozen? ⟨r, 1, none⟩ = false) := Lib.hid fun W hW => (HK.out.1.below' hW).warm 1
  go_enter Try.func24, Try.ntmps24
  go_wp2_with fail
  go_loopw [8, 9] (fun lv iv wr => ∃ (i : Nat) (v : Value), v = lv ∧ i ≤ C.length ∧ iv = .int .i64 (i : Int) ∧ Hid (RowAt wr w.heap.size 62 2 v ((C.take i).filter (fun x => decide (x ≠ (y1, y2)))).length (((C.take i).filter (fun x => decide (x ≠ (y1, y2)))).flatMap encE) ∧ Below w.heap.size w wr)) (fun _ i _ => C.length - (intOf i).toNat)
  case atStart => exact ⟨0, _, rfl, by omega, rfl, Lib.hid ⟨by simpa using RowAt.nil _ _ _ _, Below.refl _ _⟩⟩
  case round =>
    obtain ⟨i, v, rfl, hi, rfl, hI⟩ := hrel
    have HI := Lib.hid hI.out
    obtain ⟨a1, a2⟩ := HR.out wr hI.out.2
    clear hI c1 hrl
    by_cases hlt : i < C.length
    · have hltI : (i : Int) < (C.length : Int) := by omega
      obtain ⟨g, q, rfl, hg, e0, e1⟩ := HE.out i hlt
      have hsn : (C.take (i + 1)).filter (fun x => decide (x ≠ (y1, y2))) = (C.take i).filter (fun x => decide (x ≠ (y1, y2))) ++ if C[i] = (y1, y2) then [] else [C[i]] := by
        rw [List.take_succ_eq_append_getElem hlt, List.filter_append, List.filter_cons, List.filter_nil]
        by_cases h : C[i] = (y1, y2) <;> simp [h]
      have hfl := List.length_filter_le (fun x => decide (x ≠ (y1, y2))) (C.take i)
      rw [List.length_take] at hfl
      generalize (C.take i).filter (fun x => decide (x ≠ (y1, y2))) = F at HI hsn hfl
      generalize C[i] = z at e0 e1 hsn
      obtain ⟨z1, z2⟩ := z
      simp only at e0 e1
      have HCC : Hid (∀ W, Below wr.heap.size wr W → W.cell? ⟨r, 1, none⟩ = some (.slice (some ⟨g, q, none⟩) C.length ecap) ∧ W.cell? ⟨g, q + i * 2, none⟩ = some (.int .i64 z1) ∧ W.cell? ⟨g, q + i * 2 + 1, none⟩ = some (.int .i64 z2) ∧ r < W.heap.size ∧ g < W.heap.size) := Lib.hid fun W hW => by
        have hz := HI.out.2.trans (hW.mono HI.out.2.size)
        obtain ⟨b1, b2⟩ := HR.out W hz
        exact ⟨b1, (hz.cell (p := ⟨g, q + i * 2, none⟩) hg).trans e0, (hz.cell (p := ⟨g, q + i * 2 + 1, none⟩) hg).trans e1, b2, Nat.lt_of_lt_of_le hg hz.size⟩
      have HEW : Hid (∀ W, Below wr.heap.size wr W → Calls Try.prog 34 #[.int .i64 a, .int .i64 b] W fun e w' => e = .returned (.agg #[.int .i64 y1, .int .i64 y2]) ∧ Below wr.heap.size wr w' ∧ Below W.heap.size W w') := Lib.hid fun W hW => (HEN.out W).mono fun e w' ⟨he, hb⟩ => ⟨he, hW.trans (hb.mono hW.size), hb⟩
      have HSN := Lib.hid hsn
      have HFL : Hid (F.length ≤ 100000) := Lib.hid (by omega)
      clear hsn e0 e1 hg hfl
      go_wp2_with fail
      refine wp_region_ex (by kernel_rfl) (fun W => Below wr.heap.size wr W) (fun W W' => Below W.heap.size W W')
        [[(0, none)], [(19, some 0)], [(20, some 1)], [(21, some 2)], [(9, none)], [(22, some 3), (23, some 4)], [(24, some 5)], [(1, none)], [(2, none)], [(26, some 7), (27, some 8)], [(25, some 6), (28, some 9)]]
        [none, none, none, none, none, none, none, none, none, none, none, none, none, none, none, none, none, none, none, some 0, some 1, some 2, some 3, some 4, some 5, some 6, some 7, some 8, some 9, some 10, none, none, none, none, none, none, none, none, none, none, none, none, none, none, none, none, none, none, none, none, none] (by kernel_rfl) (by kernel_rfl) ((Below.refl _ _).drew) ?_
      iterate 9
        refine ex_pure (c := ?_) (fun _ _ => Below.refl _ _) ?_ ?_
        rotate_left
        · intro a' W hR hF
          simp only [FactsOf, List.nil_append, List.cons_append, List.getD_cons_zero, List.getD_cons_succ, exists_eq_left, and_true, List.getElem?_toArray, List.getElem?_cons_zero, List.getElem?_cons_succ] at hF
          obtain ⟨b1, b2, b3, b4, b5⟩ := HCC.out W hR
          refine ⟨?_, ?_⟩
          · simp [Region.wanted, yielded, hF]
          · go_simp
            with_reducible rfl
      refine ex_callx (.agg #[.int .i64 y1, .int .i64 y2]) (fun a' W hR hF => ?_) ?_
      · skip
        simp only [FactsOf, List.nil_append, List.cons_append, List.getD_cons_zero, List.getD_cons_succ, exists_eq_left, and_true, List.getElem?_toArray, List.getElem?_cons_zero, List.getElem?_cons_succ] at hF
        refine ⟨by simp [Region.wanted, yielded, hF], 34, #[.int .i64 a, .int .i64 b], by go_simp, HEW.out W hR⟩
      iterate 1
        refine ex_pure (c := ?_) (fun _ _ => Below.refl _ _) ?_ ?_
        rotate_left
        · intro a' W hR hF
          simp only [FactsOf, List.nil_append, List.cons_append, List.getD_cons_zero, List.getD_cons_succ, exists_eq_left, and_true, List.getElem?_toArray, List.getElem?_cons_zero, List.getElem?_cons_succ] at hF
          have hq := run_pair 9998 z1 z2 y1 y2 W
          refine ⟨?_, ?_⟩
          · simp [Region.wanted, yielded, hF]
          · go_simp
            with_reducible rfl
      show ∀ W, _ → _
      intro w5 hR2
      simp only [FinOf, List.nil_append, List.cons_append, List.getD_cons_zero, List.getD_cons_succ, forall_eq, forall_exists_index, and_imp, Nat.reduceAdd, Array.getD_eq_getD_getElem?, List.getElem?_toArray, List.getElem?_cons_zero, List.getElem?_cons_succ, Option.getD_some]
      have hb5 := HI.out.2.trans (hR2.mono HI.out.2.size)
      obtain ⟨b1, b2, b3, b4, b5⟩ := HCC.out w5 hR2
      have HB5 := Lib.hid hb5
      have HRW := Lib.hid (HI.out.1.below hR2)
      clear hR2 a1 a2 hb5 HEW HI
      intros
      obtain ⟨B, hB⟩ : ∃ B, B = (!z1 == y1 || !z2 == y2) := ⟨_, rfl⟩
      rw [← hB]
      cases B with
      | false =>
        have HX : Hid ((C.take (i + 1)).filter (fun x => decide (x ≠ (y1, y2))) = F) := Lib.hid (by
          have h : z1 = y1 ∧ z2 = y2 := by simpa using hB.symm
          rw [HSN.out, if_pos (by rw [h.1, h.2])]
          simp)
        clear HSN hB
        go_wp2_with fail
        go_roundw
        case rel => exact ⟨i + 1, _, rfl, by omega, by go_num, Lib.hid (by rw [HX.out]; exact ⟨HRW.out, HB5.out⟩)⟩
        case measure => simp [intOf]; omega
      | true =>
        have HX : Hid ((C.take (i + 1)).filter (fun x => decide (x ≠ (y1, y2))) = F ++ [(z1, z2)]) := Lib.hid (by
          rw [HSN.out, if_neg]
          intro h
          rw [Prod.mk.injEq] at h
          rw [h.1, h.2] at hB
          simp at hB)
        have hal : Below w5.heap.size w5 (w5.alloc (.cells #[.int .i64 z1, .int .i64 z2] 62)) := (Below.refl _ w5).alloc (Nat.le_refl _) _
        obtain ⟨v', W7, hrun, hpush, hb7⟩ := push_e (HRW.out.below hal) (z1, z2) (Sits.fresh w5 _ _) (Nat.le_trans HB5.out.size hal.size) (by have := HFL.out; omega) 28
        have HRUN := Lib.hid hrun
        have HNX : Hid (RowAt W7 w.heap.size 62 2 v' (F ++ [(z1, z2)]).length ((F ++ [(z1, z2)]).flatMap encE) ∧ Below w.heap.size w W7) := Lib.hid ⟨by rw [cut_snoc, List.length_append]; exact hpush, (HB5.out.trans (hal.mono HB5.out.size)).trans hb7⟩
        clear hB HSN hal hrun hpush hb7
        go_wp2_with (at_builtin; refine wpList_append_eq rfl (.tmp 30) (.tmp 38) 28 28 rfl _ _ _ rfl rfl HRUN.out ?_)
        go_roundw
        case rel => exact ⟨i + 1, _, rfl, by omega, by go_num, Lib.hid (by rw [HX.out]; exact HNX.out)⟩
        case measure => simp [intOf]; omega
    · obtain rfl : i = C.length := by omega
      have hI := HI.out
      rw [List.take_length] at hI
      have hfl := List.length_filter_le (fun x => decide (x ≠ (y1, y2))) C
      have HFL : Hid ((C.filter (fun x => decide (x ≠ (y1, y2)))).length ≤ 100000) := Lib.hid (by omega)
      have HJ := Lib.hid hI
      clear hI HI hfl
      generalize C.filter (fun x => decide (x ≠ (y1, y2))) = F at HJ HFL HG
      have HFI := Lib.hid (HFIN.out wr v F HJ.out.2 HJ.out.1)
      cases on with
      | false =>
        have HG2 : Hid (G = F) := Lib.hid (by rw [HG.out]; simp)
        obtain ⟨V1, vc, rfl, -⟩ := HJ.out.1.form
        have f1 := HW1.out wr HJ.out.2
        go_wp2_with fail
        go_end0
        exact ⟨rfl, by rw [HG2.out]; exact HFI.out⟩
      | true =>
        have HG2 : Hid (G = F ++ [(y1, y2)]) := Lib.hid (by rw [HG.out]; simp)
        go_wp2_with fail
        refine (HEN.out wr).mono ?_
        rintro e w5 ⟨rfl, hb5⟩
        have HB5 := Lib.hid (HJ.out.2.trans (hb5.mono HJ.out.2.size))
        have hal : Below w5.heap.size w5 (w5.alloc (.cells #[.int .i64 y1, .int .i64 y2] 62)) := (Below.refl _ w5).alloc (Nat.le_refl _) _
        obtain ⟨v', W7, hrun, hpush, hb7⟩ := push_e ((HJ.out.1.below hb5).below hal) (y1, y2) (Sits.fresh w5 _ _) (Nat.le_trans HB5.out.size hal.size) (by have := HFL.out; omega) 28
        have hb8 : Below w.heap.size w W7 := (HB5.out.trans (hal.mono HB5.out.size)).trans hb7
        have HF2 := Lib.hid (HFIN.out W7 v' (F ++ [(y1, y2)]) hb8 (by rw [cut_snoc, List.length_append]; exact hpush))
        obtain ⟨V1, vc, rfl, -⟩ := hpush.form
        have f1 := HW1.out W7 hb8
        obtain ⟨b1, b2⟩ := HR.out W7 hb8
        have HRUN := Lib.hid hrun
        clear hb5 hal hrun hpush hb7 hb8 a1 a2
        go_wp2_with (at_builtin; refine wpList_append_eq rfl (.tmp 41) (.tmp 45) 28 28 rfl _ _ _ rfl rfl HRUN.out ?_)
        go_end0
        exact ⟨rfl, by rw [HG2.out]; exact HF2.out⟩
theorem rtake_out {r : Nat} {L : List Pk} {C : List (Int × Int)} {S : Nat → Prop} {w : World} (h : RN r L C S w) (k : Int) (hL : L.length ≤ 900) (hk : ¬ (0 ≤ k ∧ k < L.length)) :
    Calls Try.prog 16 #[.pointer (some ⟨r, 0, none⟩), .int .i64 k] w fun e w' => e = .returned (.tuple #[.agg #[.int .i64 0, .int .i64 0, .string ⟨#[]⟩], .bool false]) ∧ Below w.heap.size w w' := by
  obtain ⟨W1, hW1⟩ : ∃ W, W = w.alloc (.cells #[.int .i64 0, .int .i64 0, .string ⟨#[]⟩] 48) := ⟨_, rfl⟩
  have hb : Below w.heap.size w W1 := hW1 ▸ (Below.refl _ w).alloc (Nat.le_refl _) _
  have hs1 : Sits W1 w.heap.size 48 #[.int .i64 0, .int .i64 0, .string ⟨#[]⟩] := hW1 ▸ Sits.fresh w _ _
  have hth := rthere_any (h.below hb) k (by omega)
  rw [decide_eq_false hk] at hth
  have HT := Lib.hid hth
  have e0 := hs1.cell 0
  have e1 := hs1.cell 1
  have e2 := hs1.cell 2
  have f0 := hs1.warm 0
  have f1 := hs1.warm 1
  have f2 := hs1.warm 2
  have hz := ((hs1.put 0 (.int .i64 0)).put 1 (.int .i64 0)).put 2 (.string ⟨#[]⟩)
  have HZ := Lib.hid (And.intro (hz.cell 0) (And.intro (hz.cell 1) (hz.cell 2)))
  have HF := Lib.hid (below_put (below_put (below_put hb (Nat.le_refl _) 0 (.int .i64 0)) (Nat.le_refl _) 1 (.int .i64 0)) (Nat.le_refl _) 2 (.string ⟨#[]⟩))
  clear h hk hs1 hth hz hb
  go_enter Try.func16, Try.ntmps16
  go_wp2_with fail
  rw [← hW1]
  clear hW1
  refine HT.out.mono ?_
  rintro e w' ⟨rfl, rfl⟩
  go_wp2
  refine bodyPost_ret (v := .tuple #[.agg #[.int .i64 0, .int .i64 0, .string ⟨#[]⟩], .bool false]) ?_ rfl ⟨rfl, HF.out⟩
  simp [results, Try.results16, go_sem, HZ.out]
end Go.Proofs.Ytkfbljbhdjnggaa
