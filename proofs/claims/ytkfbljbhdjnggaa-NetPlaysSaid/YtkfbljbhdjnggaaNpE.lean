/- NetPlays: what is behind its switch; the round whole; its loop. -/
import Derived.Test.YtkfbljbhdjnggaaNpD
namespace Go.Proofs.Ytkfbljbhdjnggaa
open Go Go.RowKit Go.Maps NetP
set_option maxRecDepth 1000000
set_option maxHeartbeats 8000000
set_option linter.unusedSimpArgs false

/-- What the tail asks of both nets where it reads. -/
structure Reads (w5 : World) (g r ob k : Nat) (L : List Pk) (a : St14) (x : Pk) (U : Option Addr) (ucap : Nat) : Prop where
  cells : ∀ W, Below w5.heap.size w5 W → W.cell? ⟨ob, 1, none⟩ = some (.int .i64 a.a) ∧ W.cell? ⟨r, 0, none⟩ = some (.slice U L.length ucap) ∧ W.cell? ⟨k, 0, none⟩ = some (.int .i64 x.f) ∧ W.cell? ⟨k, 1, none⟩ = some (.int .i64 x.t) ∧ W.cell? ⟨k, 2, none⟩ = some (.string (str x.d)) ∧ ob < W.heap.size ∧ r < W.heap.size ∧ k < W.heap.size
  len : ∀ W, Below w5.heap.size w5 W → Calls Try.prog 27 #[.pointer (some ⟨g, 0, none⟩)] W fun e w' => e = .returned (.int .i64 (L.length : Int)) ∧ Below w5.heap.size w5 w' ∧ Below W.heap.size W w'
  there : ∀ W, Below w5.heap.size w5 W → Calls Try.prog 28 #[.pointer (some ⟨r, 0, none⟩), .int .i64 a.a] W fun e w' => e = .returned (.bool (peekL L a.a).2) ∧ Below w5.heap.size w5 w' ∧ Below W.heap.size W w'
  elem : ∀ j : Nat, a.a = (j : Int) → ∀ (_ : j < L.length), ∃ b o, U = some ⟨b, o, none⟩ ∧ ∀ W, Below w5.heap.size w5 W → b < W.heap.size ∧ W.cell? ⟨b, o + j * 3, none⟩ = some (.int .i64 (L.getD j zPk).f) ∧ W.cell? ⟨b, o + j * 3 + 1, none⟩ = some (.int .i64 (L.getD j zPk).t) ∧ W.cell? ⟨b, o + j * 3 + 2, none⟩ = some (.string (str (L.getD j zPk).d))
theorem StN.reads {w w4 : World} {g r ob c : Nat} {L : List Pk} {C : List (Int × Int)} {a : St14} (h : StN w w4 g r ob c L C L C a) (x : Pk) :
    ∃ U ucap, Reads (w4.alloc (.cells #[.int .i64 x.f, .int .i64 x.t, .string (str x.d)] 45)) g r ob w4.heap.size L a x U ucap := by
  have hb : Below w4.heap.size w4 (w4.alloc (.cells #[.int .i64 x.f, .int .i64 x.t, .string (str x.d)] 45)) := (Below.refl _ w4).alloc (Nat.le_refl _) _
  have h5 := h.below hb
  have hs := Sits.fresh w4 45 #[.int .i64 x.f, .int .i64 x.t, .string (str x.d)]
  obtain ⟨S, hr⟩ := h5.ref
  obtain ⟨S', hn⟩ := h5.net
  have hr' := hr
  obtain ⟨u, d, h1, h2, h3, -⟩ := hr'
  have h3' := row_at h3
  obtain ⟨U, ucap, rfl, -⟩ := h3.form
  have hlen := h5.len
  refine ⟨U, ucap, ⟨fun W hW => ?_, fun W hW => ?_, fun W hW => ?_, fun j hj hjl => ?_⟩⟩
  · have q := (h5.below hW).cells
    exact ⟨q.2.1, (h1.below' hW).cell 0, (hs.below' hW).cell 0, (hs.below' hW).cell 1, (hs.below' hW).cell 2, q.2.2.2.2, (h1.below' hW).lt, (hs.below' hW).lt⟩
  · exact (nlen_any (hn.below hW)).mono fun e w' ⟨he, hw⟩ => ⟨he, hw ▸ hW, hw ▸ Below.refl _ _⟩
  · rw [peekL_is]
    exact (rthere_any (hr.below hW) a.a (by omega)).mono fun e w' ⟨he, hw⟩ => ⟨he, hw ▸ hW, hw ▸ Below.refl _ _⟩
  · obtain ⟨A', cap', e, _, _, k3⟩ := Pks.read h3'
    injection e with e1 _ e2
    subst e1 e2
    obtain ⟨b, o, e, k4, k5, k6, k7⟩ := k3 j hjl
    have eg : L.getD j zPk = L[j] := by rw [List.getD_eq_getElem?_getD, List.getElem?_eq_getElem hjl]; rfl
    rw [eg]
    exact ⟨b, o, e, fun W hW => ⟨Nat.lt_of_lt_of_le k4 hW.size, (hW.cell (p := ⟨b, o + j * 3, none⟩) k4).trans k5, (hW.cell (p := ⟨b, o + j * 3 + 1, none⟩) k4).trans k6, (hW.cell (p := ⟨b, o + j * 3 + 2, none⟩) k4).trans k7⟩⟩
theorem tail_all (f : Nat → Value) (w w3 : World) (g r ob c : Nat) (z : Bool) (L : List Pk) (C : List (Int × Int)) (a : St14) (Q : Exit → Act → World → Prop) (hST : StN w w3 g r ob c L C L C a)
    (h5 : f 5 = .pointer (some ⟨g, 0, none⟩)) (h6 : f 6 = .pointer (some ⟨r, 0, none⟩)) (h8 : f 8 = .pointer (some ⟨ob, 0, none⟩)) (h9 : f 9 = .bool z) (h10 : f 10 = .bool z)
    (hQ : ∀ a' w', Kept (f 1) (f 7) g r ob z a' → StN w w' g r ob c L C L C a → Q .normal a' w') : Code.wp Try.prog tailL Q ⟨frame f, []⟩ w3 := by
  obtain ⟨o0, o1, o2, o3, ol⟩ := hST.cells
  have hp := hST.at_ (L1' := L) (C1' := C) (L2' := L) (C2' := C) (c' := c) ((tpeek (g := g) (c := c) (L := L) (C := C) a.a).left (holdNX _ _ _ _) (holdRN _ _ _))
  have hgd : ∀ j : Nat, a.a = (j : Int) → j < L.length → peekL L a.a = (L.getD j zPk, true) := fun j hj hjl => by
    rw [hj, peekL_in L j hjl, List.getD_eq_getElem?_getD, List.getElem?_eq_getElem hjl]
    rfl
  have hbb : (peekL L a.a).2 = true → ∃ j : Nat, a.a = (j : Int) ∧ j < L.length := fun e => by
    rw [peekL_is, decide_eq_true_eq] at e
    obtain ⟨j, hj⟩ := Int.eq_ofNat_of_zero_le e.1
    exact ⟨j, hj, by omega⟩
  have hbf : (peekL L a.a).2 = false → (peekL L a.a).1 = zPk := fun e => by
    rw [peekL_is, decide_eq_false_iff_not] at e
    rw [peekL_out e]
  have HRD := Lib.hid (fun w4 (h : StN w w4 g r ob c L C L C a) x => h.reads x)
  have hl9 : (L.length : Int) ≤ 900 := by have := hST.len; omega
  obtain ⟨⟨x, B⟩, hx⟩ : ∃ R, R = peekL L a.a := ⟨_, rfl⟩
  rw [← hx] at hp hgd hbb hbf
  have HX := Lib.hid hx
  simp only at hp hbb hbf
  have T1 := Lib.hid hp
  have HQ := Lib.hid hQ
  have HGD := Lib.hid (And.intro hgd (And.intro hbb hbf))
  clear hST hQ hp hx hgd hbb hbf
  unfold frame
  rw [h5, h6, h8, h9, h10]
  clear h5 h6 h8 h9 h10
  conv => arg 2; whnf
  go_wp2_with fail
  refine T1.out.mono ?_
  rintro e w4 ⟨rfl, h4⟩
  obtain ⟨U, ucap, hrd⟩ := HRD.out w4 h4 x
  have hb5 : Below w4.heap.size w4 (w4.alloc (.cells #[.int .i64 x.f, .int .i64 x.t, .string (str x.d)] 45)) := (Below.refl _ w4).alloc (Nat.le_refl _) _
  have H5 := Lib.hid (h4.below hb5)
  obtain ⟨W5, hW5⟩ : ∃ W, W = w4.alloc (.cells #[.int .i64 x.f, .int .i64 x.t, .string (str x.d)] 45) := ⟨_, rfl⟩
  rw [← hW5] at H5 hrd
  have HR := Lib.hid hrd
  have HW5 := Lib.hid hW5
  clear h4 hb5 T1 o0 o1 o2 o3 ol hW5 hrd HRD
  go_wp2_with fail
  rw [← HW5.out]
  cases B with
  | true =>
    obtain ⟨j, hj, hjl⟩ := HGD.out.2.1 rfl
    obtain ⟨b, o, rfl, hel⟩ := HR.out.elem j hj hjl
    have hxx : L.getD j zPk = x := by
      have := HGD.out.1 j hj hjl
      rw [Prod.mk.injEq] at this
      exact this.1.symm
    rw [hxx] at hel
    have HEL := Lib.hid hel
    have hjI : (j : Int) < (L.length : Int) := by omega
    have HT : Hid (∀ W, Below W5.heap.size W5 W → Calls Try.prog 28 #[.pointer (some ⟨r, 0, none⟩), .int .i64 (j : Int)] W fun e w' => e = .returned (.bool true) ∧ Below W5.heap.size W5 w' ∧ Below W.heap.size W w') := Lib.hid fun W hW => by
      have := HR.out.there W hW
      rw [← HX.out, hj] at this
      exact this
    have HCE : Hid (∀ W, Below W5.heap.size W5 W → W.cell? ⟨ob, 1, none⟩ = some (.int .i64 (j : Int)) ∧ W.cell? ⟨r, 0, none⟩ = some (.slice (some ⟨b, o, none⟩) L.length ucap) ∧ W.cell? ⟨w4.heap.size, 0, none⟩ = some (.int .i64 x.f) ∧ W.cell? ⟨w4.heap.size, 1, none⟩ = some (.int .i64 x.t) ∧ W.cell? ⟨w4.heap.size, 2, none⟩ = some (.string (str x.d)) ∧ ob < W.heap.size ∧ r < W.heap.size ∧ w4.heap.size < W.heap.size) := Lib.hid fun W hW => by
      have := HR.out.cells W hW
      rw [hj] at this
      exact this
    have HLE := Lib.hid HR.out.len
    clear hj hjl hel hxx HX HGD HR HW5
    refine wp_region_ex (by kernel_rfl) (fun W => Below W5.heap.size W5 W) (fun W W' => Below W.heap.size W W')
      [[(9, none)], [(10, none)], [(188, some 0), (189, some 1)], [(190, some 2)], [(5, none), (191, some 3)], [(191, some 3), (192, some 4)], [(6, none), (191, some 3)], [(191, some 3), (194, some 6)], [(191, some 3), (195, some 7)], [(191, some 3), (196, some 8)], [(191, some 3), (197, some 9)], [(191, some 3), (193, some 5), (198, some 10)], [(191, some 3), (199, some 11)], [(200, some 12)], [(19, none), (201, some 13)], [(6, none), (201, some 13)], [(8, none), (201, some 13)], [(201, some 13), (204, some 16)], [(201, some 13), (203, some 15), (205, some 17)], [(201, some 13), (202, some 14), (206, some 18)], [(201, some 13), (207, some 19)], [(208, some 20)], [(19, none), (209, some 21)], [(209, some 21), (210, some 22)], [(18, none), (211, some 23)], [(6, none), (211, some 23)], [(211, some 23), (213, some 25)], [(211, some 23), (214, some 26)], [(211, some 23), (215, some 27)], [(8, none), (211, some 23)], [(211, some 23), (217, some 29)], [(211, some 23), (216, some 28), (218, some 30)], [(211, some 23), (219, some 31)], [(211, some 23), (212, some 24), (220, some 32)], [(211, some 23), (221, some 33)], [(209, some 21), (211, some 23), (222, some 34)], [(209, some 21), (223, some 35)], [(224, some 36)], [(19, none), (225, some 37)], [(225, some 37), (226, some 38)], [(225, some 37), (227, some 39)], [(18, none), (228, some 40)], [(228, some 40)], [(228, some 40), (229, some 41), (230, some 42)], [(225, some 37), (228, some 40), (231, some 43)], [(225, some 37), (232, some 44)]]
      [none, none, none, none, none, none, none, none, none, none, none, none, none, none, none, none, none, none, none, none, none, none, none, none, none, none, none, none, none, none, none, none, none, none, none, none, none, none, none, none, none, none, none, none, none, none, none, none, none, none, none, none, none, none, none, none, none, none, none, none, none, none, none, none, none, none, none, none, none, none, none, none, none, none, none, none, none, none, none, none, none, none, none, none, none, none, none, none, none, none, none, none, none, none, none, none, none, none, none, none, none, none, none, none, none, none, none, none, none, none, none, none, none, none, none, none, none, none, none, none, none, none, none, none, none, none, none, none, none, none, none, none, none, none, none, none, none, none, none, none, none, none, none, none, none, none, none, none, none, none, none, none, none, none, none, none, none, none, none, none, none, none, none, none, none, none, none, none, none, none, none, none, none, none, none, none, none, none, none, none, none, none, none, none, none, none, none, none, some 0, some 1, some 2, some 3, some 4, some 5, some 6, some 7, some 8, some 9, some 10, some 11, some 12, some 13, some 14, some 15, some 16, some 17, some 18, some 19, some 20, some 21, some 22, some 23, some 24, some 25, some 26, some 27, some 28, some 29, some 30, some 31, some 32, some 33, some 34, some 35, some 36, some 37, some 38, some 39, some 40, some 41, some 42, some 43, some 44, some 45, none, none, none, none, none, none, none, none, none, none, none, none, none, none, none, none, none, none, none, none, none, none, none, none, none, none, none, none, none, none] (by kernel_rfl) (by kernel_rfl) ((Below.refl _ _).drew) ?_
    iterate 5
      refine ex_pure (c := ?_) (fun _ _ => Below.refl _ _) ?_ ?_
      rotate_left
      · intro a' W hR hF
        simp only [FactsOf, List.nil_append, List.cons_append, List.getD_cons_zero, List.getD_cons_succ, exists_eq_left, and_true, List.getElem?_toArray, List.getElem?_cons_zero, List.getElem?_cons_succ] at hF
        obtain ⟨c1, c2, c3, c4, c5, c6, c7, c8⟩ := HCE.out W hR
        refine ⟨?_, ?_⟩
        · simp [Region.wanted, yielded, hF]
        · go_simp
          with_reducible rfl
    refine ex_callx (.int .i64 (L.length : Int)) (fun a' W hR hF => ?_) ?_
    · skip
      simp only [FactsOf, List.nil_append, List.cons_append, List.getD_cons_zero, List.getD_cons_succ, exists_eq_left, and_true, List.getElem?_toArray, List.getElem?_cons_zero, List.getElem?_cons_succ] at hF
      refine ⟨by simp [Region.wanted, yielded, hF], 27, #[.pointer (some ⟨g, 0, none⟩)], by go_simp, HLE.out W hR⟩
    iterate 12
      refine ex_pure (c := ?_) (fun _ _ => Below.refl _ _) ?_ ?_
      rotate_left
      · intro a' W hR hF
        simp only [FactsOf, List.nil_append, List.cons_append, List.getD_cons_zero, List.getD_cons_succ, exists_eq_left, and_true, List.getElem?_toArray, List.getElem?_cons_zero, List.getElem?_cons_succ] at hF
        obtain ⟨c1, c2, c3, c4, c5, c6, c7, c8⟩ := HCE.out W hR
        refine ⟨?_, ?_⟩
        · simp [Region.wanted, yielded, hF]
        · go_simp
          with_reducible rfl
    refine ex_callx (.bool true) (fun a' W hR hF => ?_) ?_
    · skip
      simp only [FactsOf, List.nil_append, List.cons_append, List.getD_cons_zero, List.getD_cons_succ, exists_eq_left, and_true, List.getElem?_toArray, List.getElem?_cons_zero, List.getElem?_cons_succ] at hF
      refine ⟨by simp [Region.wanted, yielded, hF], 28, #[.pointer (some ⟨r, 0, none⟩), .int .i64 (j : Int)], by go_simp, HT.out W hR⟩
    iterate 14
      refine ex_pure (c := ?_) (fun _ _ => Below.refl _ _) ?_ ?_
      rotate_left
      · intro a' W hR hF
        simp only [FactsOf, List.nil_append, List.cons_append, List.getD_cons_zero, List.getD_cons_succ, exists_eq_left, and_true, List.getElem?_toArray, List.getElem?_cons_zero, List.getElem?_cons_succ] at hF
        obtain ⟨c1, c2, c3, c4, c5, c6, c7, c8⟩ := HCE.out W hR
        obtain ⟨d1, d2, d3, d4⟩ := HEL.out W hR
        refine ⟨?_, ?_⟩
        · simp [Region.wanted, yielded, hF]
        · go_simp
          with_reducible rfl
    refine ex_callx (.bool true) (fun a' W hR hF => ?_) ?_
    · skip
      simp only [FactsOf, List.nil_append, List.cons_append, List.getD_cons_zero, List.getD_cons_succ, exists_eq_left, and_true, List.getElem?_toArray, List.getElem?_cons_zero, List.getElem?_cons_succ] at hF
      refine ⟨by simp [Region.wanted, yielded, hF], 17, #[.agg #[.int .i64 x.f, .int .i64 x.t, .string (str x.d)], .agg #[.int .i64 x.f, .int .i64 x.t, .string (str x.d)]], by go_simp, (same14_yes x W).mono fun e w' ⟨he, hb⟩ => ⟨he, hR.trans (hb.mono hR.size), hb⟩⟩
    iterate 7
      refine ex_pure (c := ?_) (fun _ _ => Below.refl _ _) ?_ ?_
      rotate_left
      · intro a' W hR hF
        simp only [FactsOf, List.nil_append, List.cons_append, List.getD_cons_zero, List.getD_cons_succ, exists_eq_left, and_true, List.getElem?_toArray, List.getElem?_cons_zero, List.getElem?_cons_succ] at hF
        refine ⟨?_, ?_⟩
        · simp [Region.wanted, yielded, hF]
        · go_simp
          with_reducible rfl
    iterate 3
      refine ex_skip (fun _ _ => Below.refl _ _) ?_ ?_
      · intro a' W hR hF
        simp only [FactsOf, List.nil_append, List.cons_append, List.getD_cons_zero, List.getD_cons_succ, exists_eq_left, and_true, List.getElem?_toArray, List.getElem?_cons_zero, List.getElem?_cons_succ] at hF
        simp [Region.wanted, yielded, hF]
    iterate 2
      refine ex_pure (c := ?_) (fun _ _ => Below.refl _ _) ?_ ?_
      rotate_left
      · intro a' W hR hF
        simp only [FactsOf, List.nil_append, List.cons_append, List.getD_cons_zero, List.getD_cons_succ, exists_eq_left, and_true, List.getElem?_toArray, List.getElem?_cons_zero, List.getElem?_cons_succ] at hF
        refine ⟨?_, ?_⟩
        · simp [Region.wanted, yielded, hF]
        · go_simp
          with_reducible rfl
    show ∀ W, _ → _
    intro w6 hR2
    simp only [FinOf, List.nil_append, List.cons_append, List.getD_cons_zero, List.getD_cons_succ, forall_eq, forall_exists_index, and_imp, Nat.reduceAdd, Array.getD_eq_getD_getElem?, List.getElem?_toArray, List.getElem?_cons_zero, List.getElem?_cons_succ, Option.getD_some]
    have H6 := Lib.hid (H5.out.below hR2)
    clear hR2 HCE HEL HT HLE H5
    intros
    go_wp2_with fail
    exact HQ.out _ _ ⟨rfl, rfl, rfl, rfl, rfl, rfl, rfl, rfl, rfl⟩ H6.out
  | false =>
    obtain rfl := HGD.out.2.2 rfl
    have HT : Hid (∀ W, Below W5.heap.size W5 W → Calls Try.prog 28 #[.pointer (some ⟨r, 0, none⟩), .int .i64 a.a] W fun e w' => e = .returned (.bool false) ∧ Below W5.heap.size W5 w' ∧ Below W.heap.size W w') := Lib.hid fun W hW => by
      have := HR.out.there W hW
      rw [← HX.out] at this
      exact this
    have HCE := Lib.hid HR.out.cells
    have HLE := Lib.hid HR.out.len
    clear HX HGD HR HW5
    refine wp_region_ex (by kernel_rfl) (fun W => Below W5.heap.size W5 W) (fun W W' => Below W.heap.size W W')
      [[(9, none)], [(10, none)], [(188, some 0), (189, some 1)], [(190, some 2)], [(5, none), (191, some 3)], [(191, some 3), (192, some 4)], [(6, none), (191, some 3)], [(191, some 3), (194, some 6)], [(191, some 3), (195, some 7)], [(191, some 3), (196, some 8)], [(191, some 3), (197, some 9)], [(191, some 3), (193, some 5), (198, some 10)], [(191, some 3), (199, some 11)], [(200, some 12)], [(19, none), (201, some 13)], [(6, none), (201, some 13)], [(8, none), (201, some 13)], [(201, some 13), (204, some 16)], [(201, some 13), (203, some 15), (205, some 17)], [(201, some 13), (202, some 14), (206, some 18)], [(201, some 13), (207, some 19)], [(208, some 20)], [(19, none), (209, some 21)], [(209, some 21), (210, some 22)], [(18, none), (211, some 23)], [(6, none), (211, some 23)], [(211, some 23), (213, some 25)], [(211, some 23), (214, some 26)], [(211, some 23), (215, some 27)], [(8, none), (211, some 23)], [(211, some 23), (217, some 29)], [(211, some 23), (216, some 28), (218, some 30)], [(211, some 23), (219, some 31)], [(211, some 23), (212, some 24), (220, some 32)], [(211, some 23), (221, some 33)], [(209, some 21), (211, some 23), (222, some 34)], [(209, some 21), (223, some 35)], [(224, some 36)], [(19, none), (225, some 37)], [(225, some 37), (226, some 38)], [(225, some 37), (227, some 39)], [(18, none), (228, some 40)], [(228, some 40)], [(228, some 40), (229, some 41), (230, some 42)], [(225, some 37), (228, some 40), (231, some 43)], [(225, some 37), (232, some 44)]]
      [none, none, none, none, none, none, none, none, none, none, none, none, none, none, none, none, none, none, none, none, none, none, none, none, none, none, none, none, none, none, none, none, none, none, none, none, none, none, none, none, none, none, none, none, none, none, none, none, none, none, none, none, none, none, none, none, none, none, none, none, none, none, none, none, none, none, none, none, none, none, none, none, none, none, none, none, none, none, none, none, none, none, none, none, none, none, none, none, none, none, none, none, none, none, none, none, none, none, none, none, none, none, none, none, none, none, none, none, none, none, none, none, none, none, none, none, none, none, none, none, none, none, none, none, none, none, none, none, none, none, none, none, none, none, none, none, none, none, none, none, none, none, none, none, none, none, none, none, none, none, none, none, none, none, none, none, none, none, none, none, none, none, none, none, none, none, none, none, none, none, none, none, none, none, none, none, none, none, none, none, none, none, none, none, none, none, none, none, some 0, some 1, some 2, some 3, some 4, some 5, some 6, some 7, some 8, some 9, some 10, some 11, some 12, some 13, some 14, some 15, some 16, some 17, some 18, some 19, some 20, some 21, some 22, some 23, some 24, some 25, some 26, some 27, some 28, some 29, some 30, some 31, some 32, some 33, some 34, some 35, some 36, some 37, some 38, some 39, some 40, some 41, some 42, some 43, some 44, some 45, none, none, none, none, none, none, none, none, none, none, none, none, none, none, none, none, none, none, none, none, none, none, none, none, none, none, none, none, none, none] (by kernel_rfl) (by kernel_rfl) ((Below.refl _ _).drew) ?_
    iterate 5
      refine ex_pure (c := ?_) (fun _ _ => Below.refl _ _) ?_ ?_
      rotate_left
      · intro a' W hR hF
        simp only [FactsOf, List.nil_append, List.cons_append, List.getD_cons_zero, List.getD_cons_succ, exists_eq_left, and_true, List.getElem?_toArray, List.getElem?_cons_zero, List.getElem?_cons_succ] at hF
        obtain ⟨c1, c2, c3, c4, c5, c6, c7, c8⟩ := HCE.out W hR
        refine ⟨?_, ?_⟩
        · simp [Region.wanted, yielded, hF]
        · go_simp
          with_reducible rfl
    refine ex_callx (.int .i64 (L.length : Int)) (fun a' W hR hF => ?_) ?_
    · skip
      simp only [FactsOf, List.nil_append, List.cons_append, List.getD_cons_zero, List.getD_cons_succ, exists_eq_left, and_true, List.getElem?_toArray, List.getElem?_cons_zero, List.getElem?_cons_succ] at hF
      refine ⟨by simp [Region.wanted, yielded, hF], 27, #[.pointer (some ⟨g, 0, none⟩)], by go_simp, HLE.out W hR⟩
    iterate 12
      refine ex_pure (c := ?_) (fun _ _ => Below.refl _ _) ?_ ?_
      rotate_left
      · intro a' W hR hF
        simp only [FactsOf, List.nil_append, List.cons_append, List.getD_cons_zero, List.getD_cons_succ, exists_eq_left, and_true, List.getElem?_toArray, List.getElem?_cons_zero, List.getElem?_cons_succ] at hF
        obtain ⟨c1, c2, c3, c4, c5, c6, c7, c8⟩ := HCE.out W hR
        refine ⟨?_, ?_⟩
        · simp [Region.wanted, yielded, hF]
        · go_simp
          with_reducible rfl
    refine ex_callx (.bool false) (fun a' W hR hF => ?_) ?_
    · skip
      simp only [FactsOf, List.nil_append, List.cons_append, List.getD_cons_zero, List.getD_cons_succ, exists_eq_left, and_true, List.getElem?_toArray, List.getElem?_cons_zero, List.getElem?_cons_succ] at hF
      refine ⟨by simp [Region.wanted, yielded, hF], 28, #[.pointer (some ⟨r, 0, none⟩), .int .i64 a.a], by go_simp, HT.out W hR⟩
    iterate 5
      refine ex_pure (c := ?_) (fun _ _ => Below.refl _ _) ?_ ?_
      rotate_left
      · intro a' W hR hF
        simp only [FactsOf, List.nil_append, List.cons_append, List.getD_cons_zero, List.getD_cons_succ, exists_eq_left, and_true, List.getElem?_toArray, List.getElem?_cons_zero, List.getElem?_cons_succ] at hF
        obtain ⟨c1, c2, c3, c4, c5, c6, c7, c8⟩ := HCE.out W hR
        refine ⟨?_, ?_⟩
        · simp [Region.wanted, yielded, hF]
        · go_simp
          with_reducible rfl
    iterate 11
      refine ex_skip (fun _ _ => Below.refl _ _) ?_ ?_
      · intro a' W hR hF
        simp only [FactsOf, List.nil_append, List.cons_append, List.getD_cons_zero, List.getD_cons_succ, exists_eq_left, and_true, List.getElem?_toArray, List.getElem?_cons_zero, List.getElem?_cons_succ] at hF
        simp [Region.wanted, yielded, hF]
    iterate 6
      refine ex_pure (c := ?_) (fun _ _ => Below.refl _ _) ?_ ?_
      rotate_left
      · intro a' W hR hF
        simp only [FactsOf, List.nil_append, List.cons_append, List.getD_cons_zero, List.getD_cons_succ, exists_eq_left, and_true, List.getElem?_toArray, List.getElem?_cons_zero, List.getElem?_cons_succ] at hF
        refine ⟨?_, ?_⟩
        · simp [Region.wanted, yielded, hF]
        · go_simp
          with_reducible rfl
    iterate 3
      refine ex_pure (c := ?_) (fun _ _ => Below.refl _ _) ?_ ?_
      rotate_left
      · intro a' W hR hF
        simp only [FactsOf, List.nil_append, List.cons_append, List.getD_cons_zero, List.getD_cons_succ, exists_eq_left, and_true, List.getElem?_toArray, List.getElem?_cons_zero, List.getElem?_cons_succ] at hF
        obtain ⟨c1, c2, c3, c4, c5, c6, c7, c8⟩ := HCE.out W hR
        have zf : zPk.f = 0 := rfl
        have zt : zPk.t = 0 := rfl
        have zd : (str zPk.d).toList = [] := by rw [Lib.toList_data, str_list]; rfl
        refine ⟨?_, ?_⟩
        · simp [Region.wanted, yielded, hF]
        · go_simp
          with_reducible rfl
    iterate 2
      refine ex_pure (c := ?_) (fun _ _ => Below.refl _ _) ?_ ?_
      rotate_left
      · intro a' W hR hF
        simp only [FactsOf, List.nil_append, List.cons_append, List.getD_cons_zero, List.getD_cons_succ, exists_eq_left, and_true, List.getElem?_toArray, List.getElem?_cons_zero, List.getElem?_cons_succ] at hF
        refine ⟨?_, ?_⟩
        · simp [Region.wanted, yielded, hF]
        · go_simp
          with_reducible rfl
    show ∀ W, _ → _
    intro w6 hR2
    simp only [FinOf, List.nil_append, List.cons_append, List.getD_cons_zero, List.getD_cons_succ, forall_eq, forall_exists_index, and_imp, Nat.reduceAdd, Array.getD_eq_getD_getElem?, List.getElem?_toArray, List.getElem?_cons_zero, List.getElem?_cons_succ, Option.getD_some]
    have H6 := Lib.hid (H5.out.below hR2)
    clear hR2 HCE HT HLE H5
    intros
    go_wp2_with fail
    exact HQ.out _ _ ⟨rfl, rfl, rfl, rfl, rfl, rfl, rfl, rfl, rfl⟩ H6.out
end Go.Proofs.Ytkfbljbhdjnggaa
