/- Package ring: a ring of elements of several cells: leave, Pop, New, List. -/
import Derived.Test.YtkfbljbhdjnggaaRingK
import Derived.Test.YtkfbljbhdjnggaaMinMax
namespace Go.Proofs.Ytkfbljbhdjnggaa
open Go Go.RowKit
set_option maxRecDepth 100000
set_option maxHeartbeats 1000000
set_option linter.unusedSimpArgs false

theorem RingCK.leaves {w : World} {p g room n first : Nat} {x : Pk} {l : List Pk} (h : RingCK w p g room n first (x :: l)) (a b : Nat) :
    RingCK (((((((w.drewN a).setCell ⟨g, first * 3, none⟩ (.int .i64 0)).setCell ⟨g, first * 3 + 1, none⟩ (.int .i64 0)).setCell ⟨g, first * 3 + 2, none⟩ (.string ⟨#[]⟩)).drewN b).setCell ⟨p, 2, none⟩ (.int .i64 ((first + 1) % n : Nat))).setCell ⟨p, 3, none⟩ (.int .i64 l.length)) p g room n ((first + 1) % n) l := by
  have hne := h.ne
  obtain ⟨cur, hg, hz, hc⟩ := h.cells
  have hf := h.first_lt
  have hl := h.len_le
  simp only [List.length_cons] at hl
  have hlt : (first + 1) % n < n := Nat.mod_lt _ (by omega)
  refine ⟨((((((h.sits.drewN a).away (p := ⟨g, first * 3, none⟩) (Ne.symm hne) (.int .i64 0)).away (p := ⟨g, first * 3 + 1, none⟩) (Ne.symm hne) (.int .i64 0)).away (p := ⟨g, first * 3 + 2, none⟩) (Ne.symm hne) (.string ⟨#[]⟩)).drewN b).put 2 _).put 3 _, hlt, h.n_le, by omega, h.small, _, ((((((hg.drewN a).put (first * 3) (.int .i64 0)).put (first * 3 + 1) (.int .i64 0)).put (first * 3 + 2) (.string ⟨#[]⟩)).drewN b).away (p := ⟨p, 2, none⟩) hne _).away (p := ⟨p, 3, none⟩) hne _, by simp [hz], fun i hi => ?_⟩
  have e1 : ((first + 1) % n + i) % n = (first + (i + 1)) % n := by
    rw [Nat.add_mod, Nat.mod_mod, ← Nat.add_mod]
    congr 1
    omega
  have e2 : first ≠ (first + (i + 1)) % n := by
    intro e3
    rcases Nat.lt_or_ge (first + (i + 1)) n with h1 | h1
    · rw [Nat.mod_eq_of_lt h1] at e3; omega
    · rw [Nat.mod_eq_sub_mod h1, Nat.mod_eq_of_lt (by omega)] at e3; omega
  have e4 := hc (i + 1) (by simpa using hi)
  rw [e1]
  generalize (first + (i + 1)) % n = m at e2 e4 ⊢
  simp only [Array.getElem?_setIfInBounds]
  refine ⟨?_, ?_, ?_⟩
  · rw [if_neg (by omega), if_neg (by omega), if_neg (by omega)]; exact e4.1
  · rw [if_neg (by omega), if_neg (by omega), if_neg (by omega)]; exact e4.2.1
  · rw [if_neg (by omega), if_neg (by omega), if_neg (by omega)]; exact e4.2.2
theorem leaveK_any (p g room : Nat) (x : Pk) (l : List Pk) (w : World) (h : RingK w p g room (x :: l)) :
    Calls Try.prog 48 #[.pointer (some ⟨p, 0, none⟩)] w fun e w' => e = .returned (.tuple #[]) ∧ RingK w' p g room l ∧ Two p g w w' := by
  obtain ⟨W1, hW1⟩ : ∃ W, W = w.alloc (.cells #[(.int .i64 0), (.int .i64 0), (.string ⟨#[]⟩)] 45) := ⟨_, rfl⟩
  have hb : Below w.heap.size w W1 := hW1 ▸ (Below.refl _ w).alloc (Nat.le_refl _) _
  have hs1 : Sits W1 w.heap.size 45 #[(.int .i64 0), (.int .i64 0), (.string ⟨#[]⟩)] := hW1 ▸ Sits.fresh w _ _
  obtain ⟨n, first, hc0⟩ := h.full (by simp)
  have hc := hc0.below hb
  have hne := hc.ne
  have hs := hc.small
  have hl := hc.len_le
  have hn := hc.n_le
  have hf := hc.first_lt
  have hk : 0 < (x :: l).length := by simp
  obtain ⟨cur, hg, hz, hcur⟩ := hc.cells
  have e0 : (first + 0) % n = first := Nat.mod_eq_of_lt (by omega)
  have e1 := hcur 0 hk
  rw [e0] at e1
  simp only [List.getElem_cons_zero] at e1
  obtain ⟨hq0, hq1, hq2⟩ := e1
  have cg0 := hg.cell (first * 3)
  rw [hq0] at cg0
  clear hq0
  have fg0 := hg.warm (first * 3)
  have cg1 := hg.cell (first * 3 + 1)
  rw [hq1] at cg1
  clear hq1
  have fg1 := hg.warm (first * 3 + 1)
  have cg2 := hg.cell (first * 3 + 2)
  rw [hq2] at cg2
  clear hq2
  have fg2 := hg.warm (first * 3 + 2)
  have c1 := hc.sits.cell 1
  have c2 := hc.sits.cell 2
  have c3 := hc.sits.cell 3
  have f2 := hc.sits.warm 2
  have f3 := hc.sits.warm 3
  have v0 := hs1.cell 0
  have v1 := hs1.cell 1
  have v2 := hs1.cell 2
  have hlen : ((x :: l).length : Int) = (l.length : Int) + 1 := by simp
  rw [hlen] at c3
  have hl2 : (l.length : Int) ≤ 100000 := by simp only [List.length_cons] at hl; omega
  have hone : Two p g w W1 := Two.of_below p g hb
  have HF := Lib.hid (fun a b => (RingK.intro (hc.leaves a b) : RingK _ p g room l))
  have HT := Lib.hid (fun a b => (((((((hone.drewN a).store2 (first * 3) (.int .i64 0)).store2 (first * 3 + 1) (.int .i64 0)).store2 (first * 3 + 2) (.string ⟨#[]⟩)).drewN b).store1 2 (.int .i64 ((first + 1) % n : Nat))).store1 3 (.int .i64 l.length)))
  have HS := Lib.hid (fun a => ((((hc.sits.drewN a).away (p := ⟨g, first * 3, none⟩) (Ne.symm hne) (.int .i64 0)).away (p := ⟨g, first * 3 + 1, none⟩) (Ne.symm hne) (.int .i64 0)).away (p := ⟨g, first * 3 + 2, none⟩) (Ne.symm hne) (.string ⟨#[]⟩)))
  have HN : Hid (n ≤ 100000) := Lib.hid (by omega)
  have hfi : (first : Int) < (n : Int) := by omega
  have HFN := Lib.hid hf
  have hn2 : (n : Int) ≤ 100000 := by omega
  have hgw : g ≠ w.heap.size ∧ p ≠ w.heap.size := by have := hc0.lt; omega
  clear h hc hc0 hg hcur hz hs hl hn e0 hk hlen hone hb hs1
  go_enter Try.func48, Try.ntmps48
  go_wp2_with fail
  rw [← hW1]
  clear hW1
  go_region
  all_goals go_wp2_with fail
  all_goals refine (cellK_at p g n first 1 _ _ _ (HS.out _) HFN.out HN.out (by omega)).mono ?_
  all_goals rintro e w' ⟨rfl, k, rfl⟩
  all_goals go_wp2
  all_goals go_end0
  all_goals have e2 : (((first : Int) + 1) % (n : Int)) = (((first + 1) % n : Nat) : Int) := by simp
  all_goals rw [e2]
  all_goals exact ⟨rfl, HF.out _ _, HT.out _ _⟩
theorem popK_cons (p g room : Nat) (x : Pk) (l : List Pk) (w : World) (h : RingK w p g room (x :: l)) :
    Calls Try.prog 39 #[.pointer (some ⟨p, 0, none⟩)] w fun e w' => e = .returned (.tuple #[(.agg #[(.int .i64 x.f), (.int .i64 x.t), (.string (str x.d))]), .bool true]) ∧ RingK w' p g room l ∧ Two p g w w' := by
  obtain ⟨W1, hW1⟩ : ∃ W, W = w.alloc (.cells #[(.int .i64 0), (.int .i64 0), (.string ⟨#[]⟩)] 45) := ⟨_, rfl⟩
  have hb : Below w.heap.size w W1 := hW1 ▸ (Below.refl _ w).alloc (Nat.le_refl _) _
  have hs1 : Sits W1 w.heap.size 45 #[(.int .i64 0), (.int .i64 0), (.string ⟨#[]⟩)] := hW1 ▸ Sits.fresh w _ _
  have HR := Lib.hid (h.below hb)
  have HB := Lib.hid hb
  have HS := Lib.hid hs1
  have HPK : Hid (∀ W, RingK W p g room (x :: l) → Calls Try.prog 37 #[.pointer (some ⟨p, 0, none⟩), .int .i64 0] W fun e w' => e = .returned (.tuple #[(.agg #[(.int .i64 x.f), (.int .i64 x.t), (.string (str x.d))]), .bool true]) ∧ Below W.heap.size W w') := Lib.hid fun W hW => by
    have := peekK_in p g room (x :: l) 0 W hW (by simp)
    simpa using this
  have HLT := Lib.hid h.lt
  clear h hb hs1
  go_enter Try.func39, Try.ntmps39
  go_wp2_with fail
  rw [← hW1]
  clear hW1
  refine (HPK.out W1 HR.out).mono ?_
  rintro e w2 ⟨rfl, hb⟩
  have HR2 := Lib.hid (HR.out.below hb)
  have HS2 := Lib.hid (HS.out.below' hb)
  have HB2 := Lib.hid (HB.out.trans (hb.mono HB.out.size))
  clear hb HR HS HB
  obtain ⟨W3, hW3⟩ : ∃ W, W = w2.alloc (.cells #[(.int .i64 x.f), (.int .i64 x.t), (.string (str x.d))] 45) := ⟨_, rfl⟩
  have hb : Below w2.heap.size w2 W3 := hW3 ▸ (Below.refl _ w2).alloc (Nat.le_refl _) _
  have HS4 : Hid (Sits W3 w2.heap.size 45 #[(.int .i64 x.f), (.int .i64 x.t), (.string (str x.d))]) := Lib.hid (hW3 ▸ Sits.fresh w2 _ _)
  have HR3 := Lib.hid (HR2.out.below hb)
  have HS3 := Lib.hid (HS2.out.below' hb)
  have HB3 := Lib.hid (HB2.out.trans (hb.mono HB2.out.size))
  have HLT2 : Hid (w.heap.size < w2.heap.size) := Lib.hid HS2.out.lt
  obtain ⟨q, hq⟩ : ∃ q, q = w2.heap.size := ⟨_, rfl⟩
  rw [← hq] at HS4 HLT2
  have HQ : Hid (p < q ∧ g < q) := Lib.hid (by have := HLT.out; have := HLT2.out; omega)
  clear hb HR2 HS2 HB2
  go_wp2_with fail
  rw [← hW3, ← hq]
  clear hW3 hq
  refine (leaveK_any p g room x l W3 HR3.out).mono ?_
  rintro e w4 ⟨rfl, hR, hT⟩
  have hz := HS4.out.two hT (by have := HQ.out; omega) (by have := HQ.out; omega)
  have hy := HS3.out.two hT (by have := HLT.out; omega) (by have := HLT.out; omega)
  have z0 := hz.cell 0
  have y0 := hy.cell 0
  have f0 := hy.warm 0
  have z1 := hz.cell 1
  have y1 := hy.cell 1
  have f1 := hy.warm 1
  have z2 := hz.cell 2
  have y2 := hy.cell 2
  have f2 := hy.warm 2
  have hw := (((hy.put 0 (.int .i64 x.f)).put 1 (.int .i64 x.t)).put 2 (.string (str x.d)))
  have x0 := hw.cell 0
  have x1 := hw.cell 1
  have x2 := hw.cell 2
  have HR := Lib.hid (((hR.away (q := w.heap.size) (by have := HLT.out; omega) (by have := HLT.out; omega) 0 (.int .i64 x.f)).away (q := w.heap.size) (by have := HLT.out; omega) (by have := HLT.out; omega) 1 (.int .i64 x.t)).away (q := w.heap.size) (by have := HLT.out; omega) (by have := HLT.out; omega) 2 (.string (str x.d)))
  have HT := Lib.hid (((((Two.of_below p g HB3.out).trans hT (.inl rfl)).put_new (Nat.le_refl _) 0 (.int .i64 x.f)).put_new (Nat.le_refl _) 1 (.int .i64 x.t)).put_new (Nat.le_refl _) 2 (.string (str x.d)))
  clear hR hT hz hy HR3 HS3 HB3 hw
  go_wp2
  refine bodyPost_ret (v := .tuple #[(.agg #[(.int .i64 x.f), (.int .i64 x.t), (.string (str x.d))]), .bool true]) ?_ rfl ⟨rfl, HR.out, HT.out⟩
  simp [results, Try.results39, go_sem, x0, x1, x2]
theorem infoK : (Try.prog.info? 45).map (fun i => (i.zero, i.size, i.bytes)) = some (some (.agg #[(.int .i64 0), (.int .i64 0), (.string ⟨#[]⟩)]), 3, 32) := by kernel_rfl
theorem boundedK (k : Int) (w : World) (m : Nat) (hm : m = min k.toNat 100000) :
    Calls Try.prog 43 #[.int .i64 k] w fun e w' => e = .returned (.int .i64 m) ∧ w = w' := by
  obtain ⟨q, hq⟩ : ∃ q : Nat, q = k.toNat := ⟨_, rfl⟩
  have HX : Hid (max k 0 = (q : Int)) := Lib.hid (by omega)
  have HM : Hid (min (q : Int) 100000 = (m : Int)) := Lib.hid (by omega)
  clear hq hm
  go_enter Try.func43, Try.ntmps43
  go_wp2_with (first | ((with_reducible refine at_list ?_); refine wpList_max_eq rfl (.tmp 3) (.const (.int .i64 0)) _ rfl _ _ _ _ _ rfl rfl HX.out ?_) | ((with_reducible refine at_list ?_); refine wpList_min_eq rfl (.tmp 4) (.const (.int .i64 100000)) _ rfl _ _ _ _ _ rfl rfl HM.out ?_))
  go_ret
  exact ⟨rfl, rfl⟩
theorem newK_any (k : Int) (w : World) (m : Nat) (hm : m = min k.toNat 100000) :
    Calls Try.prog 29 #[.int .i64 k] w fun e w' => e = .returned (.pointer (some ⟨w.heap.size, 0, none⟩)) ∧ RingK w' w.heap.size w.heap.size m [] ∧ Below w.heap.size w w' := by
  have HM := Lib.hid hm
  clear hm
  go_enter Try.func29, Try.ntmps29
  go_wp2_with fail
  refine (boundedK k w m HM.out).mono ?_
  rintro e w' ⟨rfl, rfl⟩
  go_wp2
  go_ret
  exact ⟨rfl, .inl ⟨rfl, rfl, by have := HM.out; omega, Sits.fresh w _ _⟩, (Below.refl w.heap.size w).alloc (Nat.le_refl _) _⟩
end Go.Proofs.Ytkfbljbhdjnggaa
