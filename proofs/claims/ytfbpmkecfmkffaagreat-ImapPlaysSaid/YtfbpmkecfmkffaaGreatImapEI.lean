/- Package imap at int: a map in memory, and parts laid where a span's blocks are (lay). -/
import Derived.Test.YtfbpmkecfmkffaaGreatImapDI
namespace Go.Proofs.YtfbpmkecfmkffaaGreat
open Go Go.RowKit SpanP PartP ImapP
set_option maxRecDepth 100000
set_option maxHeartbeats 1000000
set_option linter.unusedSimpArgs false

/-- A list's middle, as a slice of it. -/
theorem PtsI.sliced {w : World} {A : Option Addr} {cap : Nat} {l : List (PtV Int)} (h : PtsI w (.slice A l.length cap) l) (i j : Nat) (hij : i ≤ j) (hj : j ≤ l.length) : PtsI w (sliced A i j cap 3) (mid l i j) := by
  obtain ⟨A', cap', e, h1, h2, h3⟩ := h
  simp only [Value.slice.injEq, true_and] at e
  obtain ⟨rfl, rfl⟩ := e
  have hl : (mid l i j).length = j - i := mid_len hj
  show SliceAt 3 encMI w (.slice (if cap = i then A else A.map (·.add (i * 3))) (j - i) (cap - i)) (mid l i j)
  rw [← hl]
  refine ⟨_, cap - i, rfl, by omega, by omega, fun t ht => ?_⟩
  rw [hl] at ht
  obtain ⟨b, o, rfl, hb, hc⟩ := h3 (i + t) (by omega)
  rw [if_neg (by omega)]
  refine ⟨b, o + i * 3, by simp [Addr.add], hb, fun k u hu => ?_⟩
  have hm : (mid l i j)[t]'(by rw [hl]; exact ht) = l[i + t]'(by omega) := by simp [mid]
  have := hc k u (by rw [← hu, hm])
  rwa [show o + (i + t) * 3 + k = o + i * 3 + t * 3 + k by omega] at this
theorem mid_headI (l : List (PtV Int)) (i : Nat) : mid l 0 i = l.take i := by unfold mid; rw [List.drop_zero]
theorem mid_restI (l : List (PtV Int)) (i : Nat) : mid l i l.length = l.drop i := by unfold mid; rw [List.take_length]
/-- The map at mb has the parts l. -/
structure MapAtI (w : World) (mb : Nat) (l : List (PtV Int)) : Prop where
  row : ∃ v, Sits w mb 30 #[v] ∧ MRowI w 0 v l
  norm : PNorm l
  lims : Lims l
theorem MapAtI.lt {w : World} {mb : Nat} {l : List (PtV Int)} (h : MapAtI w mb l) : mb < w.heap.size := by
  obtain ⟨v, hs, _⟩ := h.row
  exact hs.lt
theorem MapAtI.below {w w' : World} {mb : Nat} {l : List (PtV Int)} (h : MapAtI w mb l) (hb : Below w.heap.size w w') : MapAtI w' mb l := by
  obtain ⟨v, hs, hr⟩ := h.row
  exact ⟨⟨v, hs.below' hb, hr.below hb⟩, h.norm, h.lims⟩
/-- lay puts parts where the blocks of a span are. -/
theorem layI_any (mb : Nat) (l : List (PtV Int)) (s : S) (x : Value) (m : List (PtV Int)) (w : World) (h : MapAtI w mb l) (hs : Ok s) (hx : PtsI w x m) (hm : Row m) (hin : ∀ y ∈ m, s.1 ≤ y.1.1 ∧ y.1.2 ≤ s.2) (ht : s.2 ≤ top)
    (hl : l.length ≤ 50000) (hlm : m.length ≤ 50000) (hlen : (laid s (mid l (nearII s l) (nearJI s l)) m).length ≤ (mid l (nearII s l) (nearJI s l)).length + 2) :
    Calls Tryz.prog 26 #[.pointer (some ⟨mb, 0, none⟩), aggS s, x] w fun e w' => e = .returned (.tuple #[]) ∧
      ∃ l', MapAtI w' mb l' ∧ MapOf l' (fun b v => Val m b v ∨ (Val l b v ∧ ¬ Has s b)) ∧ l'.length ≤ l.length + 2 ∧ Only mb w w' := by
  have hnear : Near s l (nearII s l) (nearJI s l) := nearI_ok h.norm (by unfold Ok at hs; omega)
  obtain ⟨v, hv, hr⟩ := h.row
  obtain ⟨A, cap, rfl, hc1, hc2, -, -⟩ := hr.form
  have hn := fun (w1 : World) (hv : Sits w1 mb 30 #[.slice A l.length cap]) (hp : PtsI w1 (.slice A l.length cap) l) => nearI_any mb (.slice A l.length cap) l s w1 hv hp (by omega) h.norm.row
  obtain ⟨i, hi⟩ : ∃ i, i = nearII s l := ⟨_, rfl⟩
  obtain ⟨j, hj⟩ : ∃ j, j = nearJI s l := ⟨_, rfl⟩
  rw [← hi, ← hj] at hnear hlen
  simp only [← hi, ← hj] at hn
  clear hi hj
  have HNE := Lib.hid hnear
  obtain ⟨M, hM⟩ : ∃ M, M = mid l i j := ⟨_, rfl⟩
  have hold : ∀ W, Below w.heap.size w W → PtsI W (sliced A i j cap 3) M := fun W hW => hM ▸ PtsI.sliced (hr.parts.below hW) i j hnear.le hnear.len
  have hrow : Row (laid s M m) := laid_row hs (hM ▸ (PNorm.sub h.norm (mid_sublist l i j)).row) hm hin
  have hMl : M.length ≤ 50000 := by rw [hM, mid_len hnear.len]; have := hnear.len; omega
  rw [← hM] at hlen
  have hfin : ∀ J, Weld (laid s M m) (laid s M m).length J → MapOf (l.take i ++ J ++ l.drop j) (fun b v => Val m b v ∨ (Val l b v ∧ ¬ Has s b)) ∧ Lims (l.take i ++ J ++ l.drop j) ∧ (l.take i ++ J ++ l.drop j).length ≤ l.length + 2 := fun J hJ => by
    have hmap := lay_map h.norm h.lims hs hnear hin (hM ▸ hJ)
    refine ⟨hmap, MapOf.lims hmap fun b v hb => ?_, ?_⟩
    · rcases hb with ⟨y, hy, ⟨_, _, k⟩, _⟩ | ⟨hb, _⟩
      · have := hin y hy; omega
      · exact Lims.lt h.lims hb
    · have h1 := hJ.len
      have h2 := mid_len (i := i) hnear.len
      rw [← hM] at h2
      have := hnear.len
      have := hnear.le
      simp only [List.length_append, List.length_take, List.length_drop]
      omega
  have HF := Lib.hid hfin
  have HR := Lib.hid hrow
  have HLL : Hid (l.length ≤ 50000 ∧ M.length ≤ 50000 ∧ m.length ≤ 50000 ∧ (laid s M m).length ≤ M.length + 2 ∧ l.length ≤ cap) := Lib.hid ⟨hl, hMl, hlm, hlen, hc1⟩
  obtain ⟨a, b⟩ := s
  have HRW := Lib.hid hr
  have HX := Lib.hid hx
  obtain ⟨p1, hp1⟩ : ∃ p, p = w.heap.size := ⟨_, rfl⟩
  obtain ⟨w1, hw1⟩ : ∃ w1, w1 = w.alloc (.cells #[.int .i64 a, .int .i64 b] 50) := ⟨_, rfl⟩
  have hb0 : Below w.heap.size w w1 := hw1 ▸ (Below.refl _ w).alloc (Nat.le_refl _) _
  have sp : Sits w1 p1 50 #[.int .i64 a, .int .i64 b] := hw1 ▸ hp1 ▸ Sits.fresh w _ _
  have c0 := sp.cell 0
  have c1 := sp.cell 1
  simp at c0 c1
  rw [hw1, hp1] at c0 c1
  have hn1 := hn w1 (hv.below' hb0) (hr.parts.below hb0)
  have hij := hnear.le
  have hjl := hnear.len
  obtain ⟨vo, hvo⟩ : ∃ vo, vo = sliced A i j cap 3 := ⟨_, rfl⟩
  obtain ⟨va, hva⟩ : ∃ va, va = sliced A 0 i cap 3 := ⟨_, rfl⟩
  obtain ⟨vb, hvb⟩ : ∃ vb, vb = sliced A j l.length cap 3 := ⟨_, rfl⟩
  have o1 : ∀ W : World, (Instr.slice 28 (.slice A l.length cap) (some (.int .i64 i)) (some (.int .i64 j)) none).run Tryz.prog W = .ok vo W := fun W => by
    rw [hvo, run_slice_lh W 28 A l.length cap Tryz.underlying28 .i64 .i64 i j (by omega) (by omega) (by omega)]; rfl
  have o2 : ∀ W : World, (Instr.slice 28 (.slice A l.length cap) none (some (.int .i64 i)) none).run Tryz.prog W = .ok va W := fun W => by
    rw [hva, run_slice_h W 28 A l.length cap Tryz.underlying28 .i64 i (by omega) (by omega)]; rfl
  have o3 : ∀ W : World, (Instr.slice 28 (.slice A l.length cap) (some (.int .i64 j)) none none).run Tryz.prog W = .ok vb W := fun W => by
    rw [hvb, run_slice_l W 28 A l.length cap Tryz.underlying28 .i64 j (by omega) (by omega)]; rfl
  have q1 : ∀ (W : World) (lo hi mx : Option Value), (Instr.sliceAt 28 (.slice A l.length cap) lo hi mx).run Tryz.prog W = (Instr.slice 28 (.slice A l.length cap) lo hi mx).run Tryz.prog W := fun W lo hi mx => run_sliceAt_slice W 28 _ lo hi mx Tryz.underlying28
  have OA : Hid (∀ W, Below w.heap.size w W → PtsI W va (l.take i)) := Lib.hid fun W hW => by
    have := PtsI.sliced (hr.parts.below hW) 0 i (by omega) (by omega)
    rwa [mid_headI, ← hva] at this
  have OB : Hid (∀ W, Below w.heap.size w W → PtsI W vb (l.drop j)) := Lib.hid fun W hW => by
    have := PtsI.sliced (hr.parts.below hW) j l.length hjl (Nat.le_refl _)
    rwa [mid_restI, ← hvb] at this
  rw [← hvo] at hold
  have HO := Lib.hid hold
  have HV := Lib.hid hv
  have HSP := Lib.hid sp
  have HB0 := Lib.hid hb0
  unfold aggS at hn1 ⊢
  simp only at hn1 ⊢
  clear h hs hx hm hin ht hl hlm hlen hn hnear hv hr hc1 hold hrow hMl hfin hM sp hb0 hvo hva hvb hij hjl
  go_enter Tryz.func26, Tryz.ntmps26
  go_wp2_with fail
  rw [← hw1]
  refine hn1.mono ?_
  rintro e w2 ⟨rfl, hB2⟩
  clear hn1 c0 c1 hw1
  have HB2 := Lib.hid (HB0.out.trans (hB2.mono HB0.out.size))
  have HS2 := Lib.hid (HSP.out.below' hB2)
  have k0 := (HV.out.below' HB2.out).cell 0
  simp at k0
  clear hB2 HSP HB0
  go_wp2_with fail
  rw [← hp1]
  have HL2 := Lib.hid HS2.out.lt
  clear hp1
  refine wp_region_ex (by kernel_rfl) (fun W => Below w2.heap.size w2 W) (fun W W' => Below W.heap.size W W')
    [[(8, none)], [(4, none)], [(23, some 1)], [(24, some 2)], [(22, some 0), (25, some 3)], [(2, none)], [(8, none)], [(4, none)], [(29, some 7)], [(30, some 8)], [(28, some 6), (31, some 9)], [(26, some 4), (27, some 5), (32, some 10)], [(33, some 11)], [(34, some 12)]]
    [none, none, some 13, none, none, none, none, none, none, none, none, none, none, none, none, none, none, none, none, none, none, none, some 0, some 1, some 2, some 3, some 4, some 5, some 6, some 7, some 8, some 9, some 10, some 11, some 12, none, none, none, none, none, none, none, none, none, none, none, none, none, none, none, none, none, none, none] (by kernel_rfl) (by kernel_rfl) ((Below.refl _ _).drew) ?_
  iterate 4
    refine ex_pure (c := ?_) (fun _ _ => Below.refl _ _) ?_ ?_
    rotate_left
    · intro a' W hR hF
      simp only [FactsOf, List.nil_append, List.cons_append, List.getD_cons_zero, List.getD_cons_succ, exists_eq_left, and_true, List.getElem?_toArray, List.getElem?_cons_zero, List.getElem?_cons_succ] at hF
      have k1 := (HS2.out.below' hR).cell 0
      simp at k1
      refine ⟨?_, ?_⟩
      · simp [Region.wanted, yielded, hF]
      · go_simp
        with_reducible rfl
  refine ex_callv (fun v W => PtsI W v (cutV (0, a) M)) (fun v W W' _ hB hv => hv.below hB) (fun a' W hR hF => ?_) ?_
  ·
    simp only [FactsOf, List.nil_append, List.cons_append, List.getD_cons_zero, List.getD_cons_succ, exists_eq_left, and_true, List.getElem?_toArray, List.getElem?_cons_zero, List.getElem?_cons_succ] at hF
    exact ⟨by simp [Region.wanted, yielded, hF], 32, #[vo, .agg #[.int .i64 0, .int .i64 a]], by go_simp, (cutI_any vo M (0, a) W (HO.out W (HB2.out.trans (hR.mono HB2.out.size))) (by have := HLL.out; omega)).mono fun e w' ⟨x, he, hX, hB⟩ => ⟨x, he, hR.trans (hB.mono hR.size), hB, hX.parts⟩⟩
  iterate 5
    refine ex_pure (c := ?_) (fun _ _ => Below.refl _ _) ?_ ?_
    rotate_left
    · intro a' W hR hF
      simp only [FactsOf, List.nil_append, List.cons_append, List.getD_cons_zero, List.getD_cons_succ, exists_eq_left, and_true, List.getElem?_toArray, List.getElem?_cons_zero, List.getElem?_cons_succ] at hF
      have k1 := (HS2.out.below' hR).cell 1
      simp at k1
      refine ⟨?_, ?_⟩
      · simp [Region.wanted, yielded, hF]
      · go_simp
        with_reducible rfl
  refine ex_callv (fun v W => PtsI W v (cutV (b, top) M)) (fun v W W' _ hB hv => hv.below hB) (fun a' W hR hF => ?_) ?_
  ·
    simp only [FactsOf, List.nil_append, List.cons_append, List.getD_cons_zero, List.getD_cons_succ, exists_eq_left, and_true, List.getElem?_toArray, List.getElem?_cons_zero, List.getElem?_cons_succ] at hF
    exact ⟨by simp [Region.wanted, yielded, hF], 32, #[vo, .agg #[.int .i64 b, .int .i64 9223372036854775807]], by go_simp, (cutI_any vo M (b, top) W (HO.out W (HB2.out.trans (hR.mono HB2.out.size))) (by have := HLL.out; omega)).mono fun e w' ⟨x, he, hX, hB⟩ => ⟨x, he, hR.trans (hB.mono hR.size), hB, hX.parts⟩⟩
  refine ex_val (fun v W => ∃ g u1 u3, v = .slice (some ⟨g, 0, none⟩) 3 3 ∧ Sits W g 28 #[u1, x, u3] ∧ PtsI W u1 (cutV (0, a) M) ∧ PtsI W u3 (cutV (b, top) M)) (fun v W W' _ hB ⟨g, u1, u3, e, h1, h2, h3⟩ => ⟨g, u1, u3, e, h1.below' hB, h2.below hB, h3.below hB⟩) (fun a' W hR hF => ?_) ?_
  ·
    simp only [FactsOf, List.nil_append, List.cons_append, List.getD_cons_zero, List.getD_cons_succ, exists_eq_left, and_true, List.getElem?_toArray, List.getElem?_cons_zero, List.getElem?_cons_succ] at hF
    obtain ⟨⟨u1, h1, hu1⟩, hx2, u3, h3, hu3⟩ := hF
    refine ⟨by simp [Region.wanted, yielded, hu1], .slice (some ⟨W.heap.size, 0, none⟩) 3 3, W.alloc (.cells #[u1, x, u3] 28), ?_, hR.alloc hR.size _, (Below.refl _ W).alloc (Nat.le_refl _) _, _, u1, u3, rfl, Sits.fresh W _ _, h1.below ((Below.refl _ W).alloc (Nat.le_refl _) _), h3.below ((Below.refl _ W).alloc (Nat.le_refl _) _)⟩
    obtain ⟨B1, d1, rfl, -⟩ := h1.read
    obtain ⟨B3, d3, rfl, -⟩ := h3.read
    obtain ⟨B2, d2, ex2, -⟩ := HX.out.read
    rw [ex2] at hx2 ⊢
    go_simp
  refine ex_callv (fun v W => PtsI W v (laid (a, b) M m)) (fun v W W' _ hB hv => hv.below hB) (fun a' W hR hF => ?_) ?_
  ·
    simp only [FactsOf, List.nil_append, List.cons_append, List.getD_cons_zero, List.getD_cons_succ, exists_eq_left, and_true, List.getElem?_toArray, List.getElem?_cons_zero, List.getElem?_cons_succ] at hF
    obtain ⟨v, ⟨g, u1, u3, rfl, hg, h1, h3⟩, hv⟩ := hF
    exact ⟨by simp [Region.wanted, yielded, hv], 96, #[.slice (some ⟨g, 0, none⟩) 3 3], by go_simp, (concatMI_any u1 x u3 (cutV (0, a) M) m (cutV (b, top) M) g _ W hg h1 (HX.out.below (HB2.out.trans (hR.mono HB2.out.size))) h3 (Nat.le_trans (cutV_len _ _) (by have := HLL.out; omega)) (by have := HLL.out; omega) (Nat.le_trans (cutV_len _ _) (by have := HLL.out; omega))).mono fun e w' ⟨x, he, hX, hB⟩ => ⟨x, he, hR.trans (hB.mono hR.size), hB, hX.parts⟩⟩
  refine ex_val (fun v W => PtsI W v (laid (a, b) M m)) (fun v W W' _ hB hv => hv.below hB) (fun a' W hR hF => ?_) ?_
  ·
    simp only [FactsOf, List.nil_append, List.cons_append, List.getD_cons_zero, List.getD_cons_succ, exists_eq_left, and_true, List.getElem?_toArray, List.getElem?_cons_zero, List.getElem?_cons_succ] at hF
    obtain ⟨v, hp, hv⟩ := hF
    exact ⟨by simp [Region.wanted, yielded, hv], v, W, by go_simp, hR, Below.refl _ _, hp⟩
  show ∀ W, _ → _
  intro w3 hR2
  simp only [FinOf, List.nil_append, List.cons_append, List.getD_cons_zero, List.getD_cons_succ, forall_eq, forall_exists_index, and_imp, Nat.reduceAdd, Array.getD_eq_getD_getElem?, List.getElem?_toArray, List.getElem?_cons_zero, List.getElem?_cons_succ, Option.getD_some]
  intro vd hvd v26 _ v32 _ v33 g33 u1 u3 _ _ _ _ v34 _
  have HD := Lib.hid hvd
  have HB3 := Lib.hid (HB2.out.trans (hR2.mono HB2.out.size))
  clear hvd hR2 k0
  go_wp2_with fail
  have HL3 := Lib.hid (HV.out.below' HB3.out).lt
  refine wp_region_tail 19 (by kernel_rfl) (fun W => Below w3.heap.size w3 W) (fun W W' => Below W.heap.size W W')
    [[(0, none)], [(0, none)], [(36, some 1)], [(37, some 2)], [(38, some 3)], [(6, none)], [(39, some 4), (40, some 5)], [(2, none)], [(42, some 7)], [(0, none)], [(44, some 9)], [(45, some 10)], [(46, some 11)], [(7, none)], [(47, some 12), (48, some 13)], [(41, some 6), (43, some 8), (49, some 14)], [(50, some 15)], [(35, some 0)], [(52, some 17)], [(51, some 16), (53, some 18)]]
    [none, none, none, none, none, none, none, none, none, none, none, none, none, none, none, none, none, none, none, none, none, none, none, none, none, none, none, none, none, none, none, none, none, none, none, some 0, some 1, some 2, some 3, some 4, some 5, some 6, some 7, some 8, some 9, some 10, some 11, some 12, some 13, some 14, some 15, some 16, some 17, some 18] (by kernel_rfl) (by kernel_rfl) (by kernel_rfl) ((Below.refl _ _).drew) ?_
  simp only [List.take_succ_cons, List.take_zero, List.drop_succ_cons, List.drop_zero]
  iterate 8
    refine ex_pure (c := ?_) (fun _ _ => Below.refl _ _) ?_ ?_
    rotate_left
    · intro a' W hR hF
      simp only [FactsOf, List.nil_append, List.cons_append, List.getD_cons_zero, List.getD_cons_succ, exists_eq_left, and_true, List.getElem?_toArray, List.getElem?_cons_zero, List.getElem?_cons_succ] at hF
      have k0 := ((HV.out.below' HB3.out).below' hR).cell 0
      simp at k0
      refine ⟨?_, ?_⟩
      · simp [Region.wanted, yielded, hF]
      · go_simp
        with_reducible rfl
  refine ex_callv (fun v W => ∃ J, Weld (laid (a, b) M m) (laid (a, b) M m).length J ∧ PtsI W v J) (fun v W W' _ hB ⟨J, h1, hv⟩ => ⟨J, h1, hv.below hB⟩) (fun a' W hR hF => ?_) ?_
  ·
    simp only [FactsOf, List.nil_append, List.cons_append, List.getD_cons_zero, List.getD_cons_succ, exists_eq_left, and_true, List.getElem?_toArray, List.getElem?_cons_zero, List.getElem?_cons_succ] at hF
    exact ⟨by simp [Region.wanted, yielded, hF], 97, #[vd], by go_simp, (joinedI_any vd (laid (a, b) M m) W (HD.out.below hR) (by have := HLL.out; omega) HR.out).mono fun e w' ⟨x, J, he, hJ, hX, hB⟩ => ⟨x, he, hR.trans (hB.mono hR.size), hB, J, hJ, hX.parts⟩⟩
  iterate 6
    refine ex_pure (c := ?_) (fun _ _ => Below.refl _ _) ?_ ?_
    rotate_left
    · intro a' W hR hF
      simp only [FactsOf, List.nil_append, List.cons_append, List.getD_cons_zero, List.getD_cons_succ, exists_eq_left, and_true, List.getElem?_toArray, List.getElem?_cons_zero, List.getElem?_cons_succ] at hF
      have k0 := ((HV.out.below' HB3.out).below' hR).cell 0
      simp at k0
      refine ⟨?_, ?_⟩
      · simp [Region.wanted, yielded, hF]
      · go_simp
        with_reducible rfl
  refine ex_val (fun v W => ∃ g u2 J, v = .slice (some ⟨g, 0, none⟩) 3 3 ∧ Sits W g 28 #[va, u2, vb] ∧ Weld (laid (a, b) M m) (laid (a, b) M m).length J ∧ PtsI W u2 J) (fun v W W' _ hB ⟨g, u2, J, e, h1, h2, h3⟩ => ⟨g, u2, J, e, h1.below' hB, h2, h3.below hB⟩) (fun a' W hR hF => ?_) ?_
  ·
    simp only [FactsOf, List.nil_append, List.cons_append, List.getD_cons_zero, List.getD_cons_succ, exists_eq_left, and_true, List.getElem?_toArray, List.getElem?_cons_zero, List.getElem?_cons_succ] at hF
    obtain ⟨hx1, ⟨u2, ⟨J, hJ, h2⟩, hu2⟩, hx3⟩ := hF
    refine ⟨by simp [Region.wanted, yielded, hu2], .slice (some ⟨W.heap.size, 0, none⟩) 3 3, W.alloc (.cells #[va, u2, vb] 28), ?_, hR.alloc hR.size _, (Below.refl _ W).alloc (Nat.le_refl _) _, _, u2, J, rfl, Sits.fresh W _ _, hJ, h2.below ((Below.refl _ W).alloc (Nat.le_refl _) _)⟩
    obtain ⟨B2, d2, rfl, -⟩ := h2.read
    obtain ⟨B1, d1, e1, -⟩ := (OA.out w (Below.refl _ _)).read
    obtain ⟨B3, d3, e3, -⟩ := (OB.out w (Below.refl _ _)).read
    rw [e1] at hx1 ⊢
    rw [e3] at hx3 ⊢
    go_simp
  refine ex_callv (fun v W => ∃ J, Weld (laid (a, b) M m) (laid (a, b) M m).length J ∧ MRowI W w3.heap.size v (l.take i ++ J ++ l.drop j)) (fun v W W' _ hB ⟨J, h1, hv⟩ => ⟨J, h1, hv.below hB⟩) (fun a' W hR hF => ?_) ?_
  ·
    simp only [FactsOf, List.nil_append, List.cons_append, List.getD_cons_zero, List.getD_cons_succ, exists_eq_left, and_true, List.getElem?_toArray, List.getElem?_cons_zero, List.getElem?_cons_succ] at hF
    obtain ⟨v, ⟨g, u2, J, rfl, hg, hJ, h2⟩, hv⟩ := hF
    exact ⟨by simp [Region.wanted, yielded, hv], 96, #[.slice (some ⟨g, 0, none⟩) 3 3], by go_simp, (concatMI_any va u2 vb (l.take i) J (l.drop j) g _ W hg (OA.out W (HB3.out.trans (hR.mono HB3.out.size))) h2 (OB.out W (HB3.out.trans (hR.mono HB3.out.size))) (by rw [List.length_take]; have := HLL.out; omega) (by have := hJ.len; have := HLL.out; omega) (by rw [List.length_drop]; have := HLL.out; omega)).mono fun e w' ⟨x, he, hX, hB⟩ => ⟨x, he, hR.trans (hB.mono hR.size), hB, J, hJ, hX.less hR.size⟩⟩
  iterate 2
    refine ex_pure (c := ?_) (fun _ _ => Below.refl _ _) ?_ ?_
    rotate_left
    · intro a' W hR hF
      simp only [FactsOf, List.nil_append, List.cons_append, List.getD_cons_zero, List.getD_cons_succ, exists_eq_left, and_true, List.getElem?_toArray, List.getElem?_cons_zero, List.getElem?_cons_succ] at hF
      refine ⟨?_, ?_⟩
      · simp [Region.wanted, yielded, hF]
      · go_simp
        with_reducible rfl
  show ∀ W, _ → _
  intro w4 hR2
  simp only [FinOf, List.nil_append, List.cons_append, List.getD_cons_zero, List.getD_cons_succ, forall_eq, forall_exists_index, and_imp, Nat.reduceAdd, Array.getD_eq_getD_getElem?, List.getElem?_toArray, List.getElem?_cons_zero, List.getElem?_cons_succ, Option.getD_some]
  intro v43 J1 _ _ v50 g50 u50 J50 _ _ _ _ v51 J hJ hrow
  have hmb : Sits w4 mb 30 #[.slice A l.length cap] := (HV.out.below' HB3.out).below' hR2
  have z0 := hmb.cell 0
  have f0 := hmb.warm 0
  simp at z0
  obtain ⟨h1, h2, h3⟩ := HF.out J hJ
  generalize l.take i ++ J ++ l.drop j = l' at hrow h1 h2 h3
  obtain ⟨w5, hw5⟩ : ∃ w5, w5 = w4.setCell ⟨mb, 0, none⟩ v51 := ⟨_, rfl⟩
  have hO : Only mb w w5 := hw5 ▸ ((Only.of_below mb HB3.out).then (hR2.mono (Nat.le_refl _))).store 0 v51
  have hput : Sits w5 mb 30 #[v51] := by
    have := hmb.put 0 v51
    rw [hw5]
    simpa using this
  have hrow5 : MRowI w5 0 v51 l' := by
    refine RowAt.less (RowAt.keep hrow fun k hk => ?_) (Nat.zero_le _)
    have := (hrow.lt k hk).1
    have hl := HL3.out
    rw [hw5]
    exact Below.heap_setCell _ _ _ _ (by simp only; omega)
  have HQ := Lib.hid (And.intro hput (And.intro hrow5 (And.intro hO (And.intro h1 (And.intro h2 h3)))))
  obtain ⟨B5, d5, rfl, -⟩ := hrow.form
  clear hmb hput hrow5 hO h1 h2 h3 hR2 hrow hJ
  go_wp2
  rw [← hw5]
  go_end0
  exact ⟨rfl, _, ⟨⟨_, HQ.out.1, HQ.out.2.1⟩, HQ.out.2.2.2.1.norm, HQ.out.2.2.2.2.1⟩, HQ.out.2.2.2.1, HQ.out.2.2.2.2.2, HQ.out.2.2.1⟩
end Go.Proofs.YtfbpmkecfmkffaaGreat
