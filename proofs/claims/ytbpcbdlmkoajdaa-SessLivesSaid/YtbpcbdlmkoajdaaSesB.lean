/- Package sess: New, ready, frame, isFor, Send, Waiting, Peer, Life. -/
import Derived.Test.YtbpcbdlmkoajdaaSesA
import Derived.StillTailTactics
import Derived.Test.YtbpcbdlmkoajdaaTail
namespace Go.Proofs.Ytbpcbdlmkoajdaa
open Go Go.RowKit Go.Maps SesP
set_option maxRecDepth 100000
set_option maxHeartbeats 1000000
set_option linter.unusedSimpArgs false

theorem sesNew_any (a b c : Int) (w : World) : Calls Try.prog 7 #[.int .i64 a, .int .i64 b, .int .i64 c] w fun e w' => ∃ g, e = .returned (.pointer (some ⟨g, 0, none⟩)) ∧ Has (SN g 0 (newS a b c)) w w' := by
  have HN := Lib.hid (newM_any 64 w 64 (by rfl))
  have hmm := @run_makeMap Try.prog
  go_enter Try.func7, Try.ntmps7
  go_wp2_with fail
  refine HN.out.mono ?_
  rintro e w1 ⟨rfl, hr, hb⟩
  have hb1 : Below w1.heap.size w1 (w1.alloc (.map #[] 0)) := (Below.refl _ w1).alloc (Nat.le_refl _) _
  have hb2 : ∀ cs t, Below (w1.alloc (.map #[] 0)).heap.size (w1.alloc (.map #[] 0)) ((w1.alloc (.map #[] 0)).alloc (.cells cs t)) := fun _ _ => (Below.refl _ _).alloc (Nat.le_refl _) _
  have hz : (w1.alloc (.map #[] 0)).heap.size = w1.heap.size + 1 := World.size_alloc ..
  have hlt := hr.lt
  have HX : Hid (Has (SN (w1.heap.size + 1) 0 (newS a b c)) w ((w1.alloc (.map #[] 0)).alloc (.cells #[.int .i64 a, .int .i64 b, .int .i64 c, .int .i64 0, .pointer (some ⟨w.heap.size, 0, none⟩), .int .i64 0, .int .i64 0, .map (some w1.heap.size), .bool false] 49))) := Lib.hid
    ⟨⟨w.heap.size, w.heap.size, w1.heap.size, 0, ⟨by rw [← hz]; exact Sits.fresh _ _ _, (hr.below hb1).below (hb2 _ _), (MapS.new_ w1).below (hb2 _ _), by have := hb.size; omega, Nat.le_refl _, Nat.le_refl _, hb.size⟩, Nat.le_refl _, near_new a b c⟩,
      (hb.trans (hb1.mono hb.size)).trans ((hb2 _ _).mono (by rw [hz]; have := hb.size; omega))⟩
  clear hr hb hb1 hb2 hz hlt
  go_wp2
  go_ret
  exact ⟨_, rfl, HX.out⟩
section
variable {g p q m nn c : Nat} {s : Ses} {S : Nat → Prop} {w : World}
theorem sready_yes (h : SR g p q m nn s S w) : Calls Try.prog 17 #[.pointer (some ⟨g, 0, none⟩)] w fun e w' => e = .returned (.bool true) ∧ w = w' := by
  obtain ⟨-, -, -, -, c4, -, -, -, -, hl⟩ := h.cells
  clear h
  go_enter Try.func17, Try.ntmps17
  go_wp2
  go_ret
  exact ⟨rfl, rfl⟩
theorem sready_nil (w : World) : Calls Try.prog 17 #[.pointer none] w fun e w' => e = .returned (.bool false) ∧ w = w' := by
  go_enter Try.func17, Try.ntmps17
  go_wp2
  go_ret
  exact ⟨rfl, rfl⟩
theorem sready_zero (c4 : w.cell? ⟨g, 4, none⟩ = some (.pointer none)) : Calls Try.prog 17 #[.pointer (some ⟨g, 0, none⟩)] w fun e w' => e = .returned (.bool false) ∧ w = w' := by
  go_enter Try.func17, Try.ntmps17
  go_wp2
  go_ret
  exact ⟨rfl, rfl⟩
theorem sframe_any (h : SR g p q m nn s S w) : Calls Try.prog 26 #[.pointer (some ⟨g, 0, none⟩)] w fun e w' => e = .returned (aggF (bareF s)) ∧ Below w.heap.size w w' := by
  have hb := (Below.refl w.heap.size w).alloc (Nat.le_refl _) (.cells #[.int .i64 0, .int .i64 0, .int .i64 0, .int .i64 0, .int .i64 0, .int .i64 0, .string ⟨#[]⟩, .bool false] 34)
  have hz := World.size_alloc w (.cells #[.int .i64 0, .int .i64 0, .int .i64 0, .int .i64 0, .int .i64 0, .int .i64 0, .string ⟨#[]⟩, .bool false] 34)
  obtain ⟨c0, c1, c2, c3, -, -, c6, -, -, hl⟩ := (h.below hb).cells
  have hs := Sits.fresh w 34 #[.int .i64 0, .int .i64 0, .int .i64 0, .int .i64 0, .int .i64 0, .int .i64 0, .string ⟨#[]⟩, .bool false]
  have HF := Lib.hid hb
  clear h hb
  obtain ⟨W, hW⟩ : ∃ W, W = w.alloc (.cells #[.int .i64 0, .int .i64 0, .int .i64 0, .int .i64 0, .int .i64 0, .int .i64 0, .string ⟨#[]⟩, .bool false] 34) := ⟨_, rfl⟩
  rw [← hW] at c0 c1 c2 c3 c6 hl hs HF hz
  have f0 := hs.warm 0
  have f1 := hs.warm 1
  have f2 := hs.warm 2
  have f3 := hs.warm 3
  have f4 := hs.warm 4
  have f5 := hs.warm 5
  have f6 := hs.warm 6
  have f7 := hs.warm 7
  have z0 : W.cell? ⟨w.heap.size, 0, none⟩ = some (.int .i64 0) := hs.cell 0
  have z1 : W.cell? ⟨w.heap.size, 1, none⟩ = some (.int .i64 0) := hs.cell 1
  have z2 : W.cell? ⟨w.heap.size, 2, none⟩ = some (.int .i64 0) := hs.cell 2
  have z3 : W.cell? ⟨w.heap.size, 3, none⟩ = some (.int .i64 0) := hs.cell 3
  have z4 : W.cell? ⟨w.heap.size, 4, none⟩ = some (.int .i64 0) := hs.cell 4
  have z5 : W.cell? ⟨w.heap.size, 5, none⟩ = some (.int .i64 0) := hs.cell 5
  have z6 : W.cell? ⟨w.heap.size, 6, none⟩ = some (.string ⟨#[]⟩) := hs.cell 6
  have z7 : W.cell? ⟨w.heap.size, 7, none⟩ = some (.bool false) := hs.cell 7
  have hp := hs.lt
  have HS := Lib.hid hs
  clear hs
  go_enter Try.func26, Try.ntmps26
  go_wp2_with fail
  rw [← hW]
  clear hW
  go_still_tail 21, (by kernel_rfl)
  go_wp2
  obtain ⟨Z, hZ⟩ : ∃ Z, Z = ((((((((W.setCell ⟨w.heap.size, 0, none⟩ (.int .i64 s.p)).setCell ⟨w.heap.size, 1, none⟩ (.int .i64 s.q)).setCell ⟨w.heap.size, 2, none⟩ (.int .i64 s.m)).setCell ⟨w.heap.size, 3, none⟩ (.int .i64 s.y)).setCell ⟨w.heap.size, 4, none⟩ (.int .i64 0)).setCell ⟨w.heap.size, 5, none⟩ (.int .i64 (s.n : Int))).setCell ⟨w.heap.size, 6, none⟩ (.string ⟨#[]⟩)).setCell ⟨w.heap.size, 7, none⟩ (.bool false)).drew := ⟨_, rfl⟩
  have hx : Sits Z w.heap.size 34 #[.int .i64 s.p, .int .i64 s.q, .int .i64 s.m, .int .i64 s.y, .int .i64 0, .int .i64 (s.n : Int), .string ⟨#[]⟩, .bool false] := hZ ▸ ((((((((HS.out.put 0 (.int .i64 s.p)).put 1 (.int .i64 s.q)).put 2 (.int .i64 s.m)).put 3 (.int .i64 s.y)).put 4 (.int .i64 0)).put 5 (.int .i64 (s.n : Int))).put 6 (.string ⟨#[]⟩)).put 7 (.bool false)).drew
  have hl8 : Below w.heap.size w Z := hZ ▸ ((((((((HF.out.setCell (Nat.le_refl _) _).setCell (Nat.le_refl _) _).setCell (Nat.le_refl _) _).setCell (Nat.le_refl _) _).setCell (Nat.le_refl _) _).setCell (Nat.le_refl _) _).setCell (Nat.le_refl _) _).setCell (Nat.le_refl _) _).drew
  rw [← hZ]
  have e0 : Z.cell? ⟨w.heap.size, 0, none⟩ = some (.int .i64 s.p) := hx.cell 0
  have e1 : Z.cell? ⟨w.heap.size, 1, none⟩ = some (.int .i64 s.q) := hx.cell 1
  have e2 : Z.cell? ⟨w.heap.size, 2, none⟩ = some (.int .i64 s.m) := hx.cell 2
  have e3 : Z.cell? ⟨w.heap.size, 3, none⟩ = some (.int .i64 s.y) := hx.cell 3
  have e4 : Z.cell? ⟨w.heap.size, 4, none⟩ = some (.int .i64 0) := hx.cell 4
  have e5 : Z.cell? ⟨w.heap.size, 5, none⟩ = some (.int .i64 (s.n : Int)) := hx.cell 5
  have e6 : Z.cell? ⟨w.heap.size, 6, none⟩ = some (.string ⟨#[]⟩) := hx.cell 6
  have e7 : Z.cell? ⟨w.heap.size, 7, none⟩ = some (.bool false) := hx.cell 7
  clear z0 z1 z2 z3 z4 z5 z6 z7 f0 f1 f2 f3 f4 f5 f6 f7 c0 c1 c2 c3 c6 hx hZ
  refine bodyPost_ret (v := aggF (bareF s)) ?_ rfl ⟨rfl, hl8⟩
  simp [results, Try.results26, go_sem, aggF, bareF, e0, e1, e2, e3, e4, e5, e6, e7]
  rfl
theorem isFor_any (h : SR g p q m nn s S w) (f : Frm) : Calls Try.prog 21 #[.pointer (some ⟨g, 0, none⟩), aggF f] w fun e w' => e = .returned (.bool (isFor s f)) ∧ Below w.heap.size w w' := by
  have hb := (Below.refl w.heap.size w).alloc (Nat.le_refl _) (.cells #[.int .i64 f.f, .int .i64 f.t, .int .i64 f.m, .int .i64 f.y, .int .i64 f.s, .int .i64 f.a, .string (str f.d), .bool f.h] 34)
  have hz := World.size_alloc w (.cells #[.int .i64 f.f, .int .i64 f.t, .int .i64 f.m, .int .i64 f.y, .int .i64 f.s, .int .i64 f.a, .string (str f.d), .bool f.h] 34)
  obtain ⟨c0, c1, c2, c3, -, -, -, -, -, hl⟩ := (h.below hb).cells
  have hs := Sits.fresh w 34 #[.int .i64 f.f, .int .i64 f.t, .int .i64 f.m, .int .i64 f.y, .int .i64 f.s, .int .i64 f.a, .string (str f.d), .bool f.h]
  have HF := Lib.hid hb
  clear h hb
  obtain ⟨WA, hW⟩ : ∃ W, W = w.alloc (.cells #[.int .i64 f.f, .int .i64 f.t, .int .i64 f.m, .int .i64 f.y, .int .i64 f.s, .int .i64 f.a, .string (str f.d), .bool f.h] 34) := ⟨_, rfl⟩
  rw [← hW] at c0 c1 c2 c3 hl hs HF hz
  have z0 : WA.cell? ⟨w.heap.size, 0, none⟩ = some (.int .i64 f.f) := hs.cell 0
  have z1 : WA.cell? ⟨w.heap.size, 1, none⟩ = some (.int .i64 f.t) := hs.cell 1
  have z2 : WA.cell? ⟨w.heap.size, 2, none⟩ = some (.int .i64 f.m) := hs.cell 2
  have z3 : WA.cell? ⟨w.heap.size, 3, none⟩ = some (.int .i64 f.y) := hs.cell 3
  have hp := hs.lt
  clear hs
  have HW := Lib.hid hW
  clear hW
  have HCE : Hid (∀ W', Below WA.heap.size WA W' → W'.cell? ⟨g, 0, none⟩ = some (.int .i64 s.p) ∧ W'.cell? ⟨g, 1, none⟩ = some (.int .i64 s.q) ∧ W'.cell? ⟨g, 2, none⟩ = some (.int .i64 s.m) ∧ W'.cell? ⟨g, 3, none⟩ = some (.int .i64 s.y) ∧
      W'.cell? ⟨w.heap.size, 0, none⟩ = some (.int .i64 f.f) ∧ W'.cell? ⟨w.heap.size, 1, none⟩ = some (.int .i64 f.t) ∧ W'.cell? ⟨w.heap.size, 2, none⟩ = some (.int .i64 f.m) ∧ W'.cell? ⟨w.heap.size, 3, none⟩ = some (.int .i64 f.y) ∧ g < W'.heap.size ∧ w.heap.size < W'.heap.size) := Lib.hid fun W' h =>
    ⟨(h.cell hl).trans c0, (h.cell hl).trans c1, (h.cell hl).trans c2, (h.cell hl).trans c3, (h.cell hp).trans z0, (h.cell hp).trans z1, (h.cell hp).trans z2, (h.cell hp).trans z3, Nat.lt_of_lt_of_le hl h.size, Nat.lt_of_lt_of_le hp h.size⟩
  clear c0 c1 c2 c3 z0 z1 z2 z3
  unfold aggF
  by_cases h1 : f.f = s.q
  rotate_left
  · have HE : Hid (isFor s f = false) := Lib.hid (decide_eq_false fun h => h1 h.1)
    have d1 : (f.f == s.q) = false := beq_eq_false_iff_ne.2 h1
    clear h1
    go_enter Try.func21, Try.ntmps21
    go_wp2_with fail
    rw [← HW.out]
    refine wp_region_ex (by kernel_rfl) (fun W => Below WA.heap.size WA W) (fun W W' => Below W.heap.size W W')
      [[(3, none)], [(5, some 0)], [(0, none)], [(7, some 2)], [(8, some 3)], [(9, some 4)], [(6, some 1), (10, some 5)], [(11, some 6)], [(3, none), (12, some 7)], [(12, some 7), (13, some 8)], [(0, none), (12, some 7)], [(12, some 7), (15, some 10)], [(12, some 7), (16, some 11)], [(12, some 7), (17, some 12)], [(12, some 7), (14, some 9), (18, some 13)], [(12, some 7), (19, some 14)], [(20, some 15)], [(3, none), (21, some 16)], [(21, some 16), (22, some 17)], [(21, some 16), (23, some 18)], [(21, some 16), (24, some 19)], [(25, some 20)], [(3, none), (26, some 21)], [(26, some 21), (27, some 22)], [(0, none), (26, some 21)], [(26, some 21), (29, some 24)], [(26, some 21), (30, some 25)], [(26, some 21), (31, some 26)], [(26, some 21), (28, some 23), (32, some 27)], [(26, some 21), (33, some 28)], [(34, some 29)], [(3, none), (35, some 30)], [(35, some 30), (36, some 31)], [(0, none), (35, some 30)], [(35, some 30), (38, some 33)], [(35, some 30), (39, some 34)], [(35, some 30), (40, some 35)], [(35, some 30), (37, some 32), (41, some 36)], [(35, some 30), (42, some 37)], [(43, some 38)]]
      [none, none, none, none, some 39, some 0, some 1, some 2, some 3, some 4, some 5, some 6, some 7, some 8, some 9, some 10, some 11, some 12, some 13, some 14, some 15, some 16, some 17, some 18, some 19, some 20, some 21, some 22, some 23, some 24, some 25, some 26, some 27, some 28, some 29, some 30, some 31, some 32, some 33, some 34, some 35, some 36, some 37, some 38] (by kernel_rfl) (by kernel_rfl) ((Below.refl _ _).drew) ?_
    iterate 8
      refine ex_pure (c := ?_) (fun _ _ => Below.refl _ _) ?_ ?_
      rotate_left
      · intro a' W hR hF
        simp only [FactsOf, List.nil_append, List.cons_append, List.getD_cons_zero, List.getD_cons_succ, exists_eq_left, and_true, List.getElem?_toArray, List.getElem?_cons_zero, List.getElem?_cons_succ] at hF
        obtain ⟨c0, c1, c2, c3, z0, z1, z2, z3, hl, hp⟩ := HCE.out W hR
        refine ⟨?_, ?_⟩
        · simp [Region.wanted, yielded, hF]
        · go_simp
          with_reducible rfl
    iterate 7
      refine ex_skip (fun _ _ => Below.refl _ _) ?_ ?_
      · intro a' W hR hF
        simp only [FactsOf, List.nil_append, List.cons_append, List.getD_cons_zero, List.getD_cons_succ, exists_eq_left, and_true, List.getElem?_toArray, List.getElem?_cons_zero, List.getElem?_cons_succ] at hF
        simp [Region.wanted, yielded, hF]
    iterate 2
      refine ex_pure (c := ?_) (fun _ _ => Below.refl _ _) ?_ ?_
      rotate_left
      · intro a' W hR hF
        simp only [FactsOf, List.nil_append, List.cons_append, List.getD_cons_zero, List.getD_cons_succ, exists_eq_left, and_true, List.getElem?_toArray, List.getElem?_cons_zero, List.getElem?_cons_succ] at hF
        refine ⟨?_, ?_⟩
        · simp [Region.wanted, yielded, hF]
        · go_simp
          with_reducible rfl
    iterate 3
      refine ex_skip (fun _ _ => Below.refl _ _) ?_ ?_
      · intro a' W hR hF
        simp only [FactsOf, List.nil_append, List.cons_append, List.getD_cons_zero, List.getD_cons_succ, exists_eq_left, and_true, List.getElem?_toArray, List.getElem?_cons_zero, List.getElem?_cons_succ] at hF
        simp [Region.wanted, yielded, hF]
    iterate 2
      refine ex_pure (c := ?_) (fun _ _ => Below.refl _ _) ?_ ?_
      rotate_left
      · intro a' W hR hF
        simp only [FactsOf, List.nil_append, List.cons_append, List.getD_cons_zero, List.getD_cons_succ, exists_eq_left, and_true, List.getElem?_toArray, List.getElem?_cons_zero, List.getElem?_cons_succ] at hF
        refine ⟨?_, ?_⟩
        · simp [Region.wanted, yielded, hF]
        · go_simp
          with_reducible rfl
    iterate 7
      refine ex_skip (fun _ _ => Below.refl _ _) ?_ ?_
      · intro a' W hR hF
        simp only [FactsOf, List.nil_append, List.cons_append, List.getD_cons_zero, List.getD_cons_succ, exists_eq_left, and_true, List.getElem?_toArray, List.getElem?_cons_zero, List.getElem?_cons_succ] at hF
        simp [Region.wanted, yielded, hF]
    iterate 2
      refine ex_pure (c := ?_) (fun _ _ => Below.refl _ _) ?_ ?_
      rotate_left
      · intro a' W hR hF
        simp only [FactsOf, List.nil_append, List.cons_append, List.getD_cons_zero, List.getD_cons_succ, exists_eq_left, and_true, List.getElem?_toArray, List.getElem?_cons_zero, List.getElem?_cons_succ] at hF
        refine ⟨?_, ?_⟩
        · simp [Region.wanted, yielded, hF]
        · go_simp
          with_reducible rfl
    iterate 7
      refine ex_skip (fun _ _ => Below.refl _ _) ?_ ?_
      · intro a' W hR hF
        simp only [FactsOf, List.nil_append, List.cons_append, List.getD_cons_zero, List.getD_cons_succ, exists_eq_left, and_true, List.getElem?_toArray, List.getElem?_cons_zero, List.getElem?_cons_succ] at hF
        simp [Region.wanted, yielded, hF]
    iterate 2
      refine ex_pure (c := ?_) (fun _ _ => Below.refl _ _) ?_ ?_
      rotate_left
      · intro a' W hR hF
        simp only [FactsOf, List.nil_append, List.cons_append, List.getD_cons_zero, List.getD_cons_succ, exists_eq_left, and_true, List.getElem?_toArray, List.getElem?_cons_zero, List.getElem?_cons_succ] at hF
        refine ⟨?_, ?_⟩
        · simp [Region.wanted, yielded, hF]
        · go_simp
          with_reducible rfl
    show ∀ W, _ → _
    intro w2 hR2
    simp only [FinOf, List.nil_append, List.cons_append, List.getD_cons_zero, List.getD_cons_succ, forall_eq, forall_exists_index, and_imp, Nat.reduceAdd, Array.getD_eq_getD_getElem?, List.getElem?_toArray, List.getElem?_cons_zero, List.getElem?_cons_succ, Option.getD_some]
    go_wp2
    go_ret
    exact ⟨by rw [HE.out]; rfl, HF.out.trans (hR2.mono HF.out.size)⟩
  by_cases h2 : f.t = s.p
  rotate_left
  · have HE : Hid (isFor s f = false) := Lib.hid (decide_eq_false fun h => h2 h.2.1)
    have d1 : (f.f == s.q) = true := beq_iff_eq.2 h1
    have d2 : (f.t == s.p) = false := beq_eq_false_iff_ne.2 h2
    clear h1 h2
    go_enter Try.func21, Try.ntmps21
    go_wp2_with fail
    rw [← HW.out]
    refine wp_region_ex (by kernel_rfl) (fun W => Below WA.heap.size WA W) (fun W W' => Below W.heap.size W W')
      [[(3, none)], [(5, some 0)], [(0, none)], [(7, some 2)], [(8, some 3)], [(9, some 4)], [(6, some 1), (10, some 5)], [(11, some 6)], [(3, none), (12, some 7)], [(12, some 7), (13, some 8)], [(0, none), (12, some 7)], [(12, some 7), (15, some 10)], [(12, some 7), (16, some 11)], [(12, some 7), (17, some 12)], [(12, some 7), (14, some 9), (18, some 13)], [(12, some 7), (19, some 14)], [(20, some 15)], [(3, none), (21, some 16)], [(21, some 16), (22, some 17)], [(21, some 16), (23, some 18)], [(21, some 16), (24, some 19)], [(25, some 20)], [(3, none), (26, some 21)], [(26, some 21), (27, some 22)], [(0, none), (26, some 21)], [(26, some 21), (29, some 24)], [(26, some 21), (30, some 25)], [(26, some 21), (31, some 26)], [(26, some 21), (28, some 23), (32, some 27)], [(26, some 21), (33, some 28)], [(34, some 29)], [(3, none), (35, some 30)], [(35, some 30), (36, some 31)], [(0, none), (35, some 30)], [(35, some 30), (38, some 33)], [(35, some 30), (39, some 34)], [(35, some 30), (40, some 35)], [(35, some 30), (37, some 32), (41, some 36)], [(35, some 30), (42, some 37)], [(43, some 38)]]
      [none, none, none, none, some 39, some 0, some 1, some 2, some 3, some 4, some 5, some 6, some 7, some 8, some 9, some 10, some 11, some 12, some 13, some 14, some 15, some 16, some 17, some 18, some 19, some 20, some 21, some 22, some 23, some 24, some 25, some 26, some 27, some 28, some 29, some 30, some 31, some 32, some 33, some 34, some 35, some 36, some 37, some 38] (by kernel_rfl) (by kernel_rfl) ((Below.refl _ _).drew) ?_
    iterate 17
      refine ex_pure (c := ?_) (fun _ _ => Below.refl _ _) ?_ ?_
      rotate_left
      · intro a' W hR hF
        simp only [FactsOf, List.nil_append, List.cons_append, List.getD_cons_zero, List.getD_cons_succ, exists_eq_left, and_true, List.getElem?_toArray, List.getElem?_cons_zero, List.getElem?_cons_succ] at hF
        obtain ⟨c0, c1, c2, c3, z0, z1, z2, z3, hl, hp⟩ := HCE.out W hR
        refine ⟨?_, ?_⟩
        · simp [Region.wanted, yielded, hF]
        · go_simp
          with_reducible rfl
    iterate 3
      refine ex_skip (fun _ _ => Below.refl _ _) ?_ ?_
      · intro a' W hR hF
        simp only [FactsOf, List.nil_append, List.cons_append, List.getD_cons_zero, List.getD_cons_succ, exists_eq_left, and_true, List.getElem?_toArray, List.getElem?_cons_zero, List.getElem?_cons_succ] at hF
        simp [Region.wanted, yielded, hF]
    iterate 2
      refine ex_pure (c := ?_) (fun _ _ => Below.refl _ _) ?_ ?_
      rotate_left
      · intro a' W hR hF
        simp only [FactsOf, List.nil_append, List.cons_append, List.getD_cons_zero, List.getD_cons_succ, exists_eq_left, and_true, List.getElem?_toArray, List.getElem?_cons_zero, List.getElem?_cons_succ] at hF
        refine ⟨?_, ?_⟩
        · simp [Region.wanted, yielded, hF]
        · go_simp
          with_reducible rfl
    iterate 7
      refine ex_skip (fun _ _ => Below.refl _ _) ?_ ?_
      · intro a' W hR hF
        simp only [FactsOf, List.nil_append, List.cons_append, List.getD_cons_zero, List.getD_cons_succ, exists_eq_left, and_true, List.getElem?_toArray, List.getElem?_cons_zero, List.getElem?_cons_succ] at hF
        simp [Region.wanted, yielded, hF]
    iterate 2
      refine ex_pure (c := ?_) (fun _ _ => Below.refl _ _) ?_ ?_
      rotate_left
      · intro a' W hR hF
        simp only [FactsOf, List.nil_append, List.cons_append, List.getD_cons_zero, List.getD_cons_succ, exists_eq_left, and_true, List.getElem?_toArray, List.getElem?_cons_zero, List.getElem?_cons_succ] at hF
        refine ⟨?_, ?_⟩
        · simp [Region.wanted, yielded, hF]
        · go_simp
          with_reducible rfl
    iterate 7
      refine ex_skip (fun _ _ => Below.refl _ _) ?_ ?_
      · intro a' W hR hF
        simp only [FactsOf, List.nil_append, List.cons_append, List.getD_cons_zero, List.getD_cons_succ, exists_eq_left, and_true, List.getElem?_toArray, List.getElem?_cons_zero, List.getElem?_cons_succ] at hF
        simp [Region.wanted, yielded, hF]
    iterate 2
      refine ex_pure (c := ?_) (fun _ _ => Below.refl _ _) ?_ ?_
      rotate_left
      · intro a' W hR hF
        simp only [FactsOf, List.nil_append, List.cons_append, List.getD_cons_zero, List.getD_cons_succ, exists_eq_left, and_true, List.getElem?_toArray, List.getElem?_cons_zero, List.getElem?_cons_succ] at hF
        refine ⟨?_, ?_⟩
        · simp [Region.wanted, yielded, hF]
        · go_simp
          with_reducible rfl
    show ∀ W, _ → _
    intro w2 hR2
    simp only [FinOf, List.nil_append, List.cons_append, List.getD_cons_zero, List.getD_cons_succ, forall_eq, forall_exists_index, and_imp, Nat.reduceAdd, Array.getD_eq_getD_getElem?, List.getElem?_toArray, List.getElem?_cons_zero, List.getElem?_cons_succ, Option.getD_some]
    go_wp2
    go_ret
    exact ⟨by rw [HE.out]; rfl, HF.out.trans (hR2.mono HF.out.size)⟩
  by_cases h3 : 1 ≤ f.m
  rotate_left
  · have HE : Hid (isFor s f = false) := Lib.hid (decide_eq_false fun h => h3 h.2.2.1)
    have d1 : (f.f == s.q) = true := beq_iff_eq.2 h1
    have d2 : (f.t == s.p) = true := beq_iff_eq.2 h2
    have d3 : decide (1 ≤ f.m) = false := decide_eq_false h3
    clear h1 h2 h3
    go_enter Try.func21, Try.ntmps21
    go_wp2_with fail
    rw [← HW.out]
    refine wp_region_ex (by kernel_rfl) (fun W => Below WA.heap.size WA W) (fun W W' => Below W.heap.size W W')
      [[(3, none)], [(5, some 0)], [(0, none)], [(7, some 2)], [(8, some 3)], [(9, some 4)], [(6, some 1), (10, some 5)], [(11, some 6)], [(3, none), (12, some 7)], [(12, some 7), (13, some 8)], [(0, none), (12, some 7)], [(12, some 7), (15, some 10)], [(12, some 7), (16, some 11)], [(12, some 7), (17, some 12)], [(12, some 7), (14, some 9), (18, some 13)], [(12, some 7), (19, some 14)], [(20, some 15)], [(3, none), (21, some 16)], [(21, some 16), (22, some 17)], [(21, some 16), (23, some 18)], [(21, some 16), (24, some 19)], [(25, some 20)], [(3, none), (26, some 21)], [(26, some 21), (27, some 22)], [(0, none), (26, some 21)], [(26, some 21), (29, some 24)], [(26, some 21), (30, some 25)], [(26, some 21), (31, some 26)], [(26, some 21), (28, some 23), (32, some 27)], [(26, some 21), (33, some 28)], [(34, some 29)], [(3, none), (35, some 30)], [(35, some 30), (36, some 31)], [(0, none), (35, some 30)], [(35, some 30), (38, some 33)], [(35, some 30), (39, some 34)], [(35, some 30), (40, some 35)], [(35, some 30), (37, some 32), (41, some 36)], [(35, some 30), (42, some 37)], [(43, some 38)]]
      [none, none, none, none, some 39, some 0, some 1, some 2, some 3, some 4, some 5, some 6, some 7, some 8, some 9, some 10, some 11, some 12, some 13, some 14, some 15, some 16, some 17, some 18, some 19, some 20, some 21, some 22, some 23, some 24, some 25, some 26, some 27, some 28, some 29, some 30, some 31, some 32, some 33, some 34, some 35, some 36, some 37, some 38] (by kernel_rfl) (by kernel_rfl) ((Below.refl _ _).drew) ?_
    iterate 22
      refine ex_pure (c := ?_) (fun _ _ => Below.refl _ _) ?_ ?_
      rotate_left
      · intro a' W hR hF
        simp only [FactsOf, List.nil_append, List.cons_append, List.getD_cons_zero, List.getD_cons_succ, exists_eq_left, and_true, List.getElem?_toArray, List.getElem?_cons_zero, List.getElem?_cons_succ] at hF
        obtain ⟨c0, c1, c2, c3, z0, z1, z2, z3, hl, hp⟩ := HCE.out W hR
        refine ⟨?_, ?_⟩
        · simp [Region.wanted, yielded, hF]
        · go_simp
          with_reducible rfl
    iterate 7
      refine ex_skip (fun _ _ => Below.refl _ _) ?_ ?_
      · intro a' W hR hF
        simp only [FactsOf, List.nil_append, List.cons_append, List.getD_cons_zero, List.getD_cons_succ, exists_eq_left, and_true, List.getElem?_toArray, List.getElem?_cons_zero, List.getElem?_cons_succ] at hF
        simp [Region.wanted, yielded, hF]
    iterate 2
      refine ex_pure (c := ?_) (fun _ _ => Below.refl _ _) ?_ ?_
      rotate_left
      · intro a' W hR hF
        simp only [FactsOf, List.nil_append, List.cons_append, List.getD_cons_zero, List.getD_cons_succ, exists_eq_left, and_true, List.getElem?_toArray, List.getElem?_cons_zero, List.getElem?_cons_succ] at hF
        refine ⟨?_, ?_⟩
        · simp [Region.wanted, yielded, hF]
        · go_simp
          with_reducible rfl
    iterate 7
      refine ex_skip (fun _ _ => Below.refl _ _) ?_ ?_
      · intro a' W hR hF
        simp only [FactsOf, List.nil_append, List.cons_append, List.getD_cons_zero, List.getD_cons_succ, exists_eq_left, and_true, List.getElem?_toArray, List.getElem?_cons_zero, List.getElem?_cons_succ] at hF
        simp [Region.wanted, yielded, hF]
    iterate 2
      refine ex_pure (c := ?_) (fun _ _ => Below.refl _ _) ?_ ?_
      rotate_left
      · intro a' W hR hF
        simp only [FactsOf, List.nil_append, List.cons_append, List.getD_cons_zero, List.getD_cons_succ, exists_eq_left, and_true, List.getElem?_toArray, List.getElem?_cons_zero, List.getElem?_cons_succ] at hF
        refine ⟨?_, ?_⟩
        · simp [Region.wanted, yielded, hF]
        · go_simp
          with_reducible rfl
    show ∀ W, _ → _
    intro w2 hR2
    simp only [FinOf, List.nil_append, List.cons_append, List.getD_cons_zero, List.getD_cons_succ, forall_eq, forall_exists_index, and_imp, Nat.reduceAdd, Array.getD_eq_getD_getElem?, List.getElem?_toArray, List.getElem?_cons_zero, List.getElem?_cons_succ, Option.getD_some]
    go_wp2
    go_ret
    exact ⟨by rw [HE.out]; rfl, HF.out.trans (hR2.mono HF.out.size)⟩
  by_cases h4 : s.y ≤ f.m
  rotate_left
  · have HE : Hid (isFor s f = false) := Lib.hid (decide_eq_false fun h => h4 h.2.2.2.1)
    have d1 : (f.f == s.q) = true := beq_iff_eq.2 h1
    have d2 : (f.t == s.p) = true := beq_iff_eq.2 h2
    have d3 : decide (1 ≤ f.m) = true := decide_eq_true h3
    have d4 : decide (s.y ≤ f.m) = false := decide_eq_false h4
    clear h1 h2 h3 h4
    go_enter Try.func21, Try.ntmps21
    go_wp2_with fail
    rw [← HW.out]
    refine wp_region_ex (by kernel_rfl) (fun W => Below WA.heap.size WA W) (fun W W' => Below W.heap.size W W')
      [[(3, none)], [(5, some 0)], [(0, none)], [(7, some 2)], [(8, some 3)], [(9, some 4)], [(6, some 1), (10, some 5)], [(11, some 6)], [(3, none), (12, some 7)], [(12, some 7), (13, some 8)], [(0, none), (12, some 7)], [(12, some 7), (15, some 10)], [(12, some 7), (16, some 11)], [(12, some 7), (17, some 12)], [(12, some 7), (14, some 9), (18, some 13)], [(12, some 7), (19, some 14)], [(20, some 15)], [(3, none), (21, some 16)], [(21, some 16), (22, some 17)], [(21, some 16), (23, some 18)], [(21, some 16), (24, some 19)], [(25, some 20)], [(3, none), (26, some 21)], [(26, some 21), (27, some 22)], [(0, none), (26, some 21)], [(26, some 21), (29, some 24)], [(26, some 21), (30, some 25)], [(26, some 21), (31, some 26)], [(26, some 21), (28, some 23), (32, some 27)], [(26, some 21), (33, some 28)], [(34, some 29)], [(3, none), (35, some 30)], [(35, some 30), (36, some 31)], [(0, none), (35, some 30)], [(35, some 30), (38, some 33)], [(35, some 30), (39, some 34)], [(35, some 30), (40, some 35)], [(35, some 30), (37, some 32), (41, some 36)], [(35, some 30), (42, some 37)], [(43, some 38)]]
      [none, none, none, none, some 39, some 0, some 1, some 2, some 3, some 4, some 5, some 6, some 7, some 8, some 9, some 10, some 11, some 12, some 13, some 14, some 15, some 16, some 17, some 18, some 19, some 20, some 21, some 22, some 23, some 24, some 25, some 26, some 27, some 28, some 29, some 30, some 31, some 32, some 33, some 34, some 35, some 36, some 37, some 38] (by kernel_rfl) (by kernel_rfl) ((Below.refl _ _).drew) ?_
    iterate 31
      refine ex_pure (c := ?_) (fun _ _ => Below.refl _ _) ?_ ?_
      rotate_left
      · intro a' W hR hF
        simp only [FactsOf, List.nil_append, List.cons_append, List.getD_cons_zero, List.getD_cons_succ, exists_eq_left, and_true, List.getElem?_toArray, List.getElem?_cons_zero, List.getElem?_cons_succ] at hF
        obtain ⟨c0, c1, c2, c3, z0, z1, z2, z3, hl, hp⟩ := HCE.out W hR
        refine ⟨?_, ?_⟩
        · simp [Region.wanted, yielded, hF]
        · go_simp
          with_reducible rfl
    iterate 7
      refine ex_skip (fun _ _ => Below.refl _ _) ?_ ?_
      · intro a' W hR hF
        simp only [FactsOf, List.nil_append, List.cons_append, List.getD_cons_zero, List.getD_cons_succ, exists_eq_left, and_true, List.getElem?_toArray, List.getElem?_cons_zero, List.getElem?_cons_succ] at hF
        simp [Region.wanted, yielded, hF]
    iterate 2
      refine ex_pure (c := ?_) (fun _ _ => Below.refl _ _) ?_ ?_
      rotate_left
      · intro a' W hR hF
        simp only [FactsOf, List.nil_append, List.cons_append, List.getD_cons_zero, List.getD_cons_succ, exists_eq_left, and_true, List.getElem?_toArray, List.getElem?_cons_zero, List.getElem?_cons_succ] at hF
        refine ⟨?_, ?_⟩
        · simp [Region.wanted, yielded, hF]
        · go_simp
          with_reducible rfl
    show ∀ W, _ → _
    intro w2 hR2
    simp only [FinOf, List.nil_append, List.cons_append, List.getD_cons_zero, List.getD_cons_succ, forall_eq, forall_exists_index, and_imp, Nat.reduceAdd, Array.getD_eq_getD_getElem?, List.getElem?_toArray, List.getElem?_cons_zero, List.getElem?_cons_succ, Option.getD_some]
    go_wp2
    go_ret
    exact ⟨by rw [HE.out]; rfl, HF.out.trans (hR2.mono HF.out.size)⟩
  by_cases h5 : f.y ≤ s.m
  rotate_left
  · have HE : Hid (isFor s f = false) := Lib.hid (decide_eq_false fun h => h5 h.2.2.2.2)
    have d1 : (f.f == s.q) = true := beq_iff_eq.2 h1
    have d2 : (f.t == s.p) = true := beq_iff_eq.2 h2
    have d3 : decide (1 ≤ f.m) = true := decide_eq_true h3
    have d4 : decide (s.y ≤ f.m) = true := decide_eq_true h4
    have d5 : decide (f.y ≤ s.m) = false := decide_eq_false h5
    clear h1 h2 h3 h4 h5
    go_enter Try.func21, Try.ntmps21
    go_wp2_with fail
    rw [← HW.out]
    refine wp_region_ex (by kernel_rfl) (fun W => Below WA.heap.size WA W) (fun W W' => Below W.heap.size W W')
      [[(3, none)], [(5, some 0)], [(0, none)], [(7, some 2)], [(8, some 3)], [(9, some 4)], [(6, some 1), (10, some 5)], [(11, some 6)], [(3, none), (12, some 7)], [(12, some 7), (13, some 8)], [(0, none), (12, some 7)], [(12, some 7), (15, some 10)], [(12, some 7), (16, some 11)], [(12, some 7), (17, some 12)], [(12, some 7), (14, some 9), (18, some 13)], [(12, some 7), (19, some 14)], [(20, some 15)], [(3, none), (21, some 16)], [(21, some 16), (22, some 17)], [(21, some 16), (23, some 18)], [(21, some 16), (24, some 19)], [(25, some 20)], [(3, none), (26, some 21)], [(26, some 21), (27, some 22)], [(0, none), (26, some 21)], [(26, some 21), (29, some 24)], [(26, some 21), (30, some 25)], [(26, some 21), (31, some 26)], [(26, some 21), (28, some 23), (32, some 27)], [(26, some 21), (33, some 28)], [(34, some 29)], [(3, none), (35, some 30)], [(35, some 30), (36, some 31)], [(0, none), (35, some 30)], [(35, some 30), (38, some 33)], [(35, some 30), (39, some 34)], [(35, some 30), (40, some 35)], [(35, some 30), (37, some 32), (41, some 36)], [(35, some 30), (42, some 37)], [(43, some 38)]]
      [none, none, none, none, some 39, some 0, some 1, some 2, some 3, some 4, some 5, some 6, some 7, some 8, some 9, some 10, some 11, some 12, some 13, some 14, some 15, some 16, some 17, some 18, some 19, some 20, some 21, some 22, some 23, some 24, some 25, some 26, some 27, some 28, some 29, some 30, some 31, some 32, some 33, some 34, some 35, some 36, some 37, some 38] (by kernel_rfl) (by kernel_rfl) ((Below.refl _ _).drew) ?_
    iterate 40
      refine ex_pure (c := ?_) (fun _ _ => Below.refl _ _) ?_ ?_
      rotate_left
      · intro a' W hR hF
        simp only [FactsOf, List.nil_append, List.cons_append, List.getD_cons_zero, List.getD_cons_succ, exists_eq_left, and_true, List.getElem?_toArray, List.getElem?_cons_zero, List.getElem?_cons_succ] at hF
        obtain ⟨c0, c1, c2, c3, z0, z1, z2, z3, hl, hp⟩ := HCE.out W hR
        refine ⟨?_, ?_⟩
        · simp [Region.wanted, yielded, hF]
        · go_simp
          with_reducible rfl
    show ∀ W, _ → _
    intro w2 hR2
    simp only [FinOf, List.nil_append, List.cons_append, List.getD_cons_zero, List.getD_cons_succ, forall_eq, forall_exists_index, and_imp, Nat.reduceAdd, Array.getD_eq_getD_getElem?, List.getElem?_toArray, List.getElem?_cons_zero, List.getElem?_cons_succ, Option.getD_some]
    go_wp2
    go_ret
    exact ⟨by rw [HE.out]; rfl, HF.out.trans (hR2.mono HF.out.size)⟩
  have HE : Hid (isFor s f = true) := Lib.hid (decide_eq_true ⟨h1, h2, h3, h4, h5⟩)
  have d1 : (f.f == s.q) = true := beq_iff_eq.2 h1
  have d2 : (f.t == s.p) = true := beq_iff_eq.2 h2
  have d3 : decide (1 ≤ f.m) = true := decide_eq_true h3
  have d4 : decide (s.y ≤ f.m) = true := decide_eq_true h4
  have d5 : decide (f.y ≤ s.m) = true := decide_eq_true h5
  clear h1 h2 h3 h4 h5
  go_enter Try.func21, Try.ntmps21
  go_wp2_with fail
  rw [← HW.out]
  refine wp_region_ex (by kernel_rfl) (fun W => Below WA.heap.size WA W) (fun W W' => Below W.heap.size W W')
    [[(3, none)], [(5, some 0)], [(0, none)], [(7, some 2)], [(8, some 3)], [(9, some 4)], [(6, some 1), (10, some 5)], [(11, some 6)], [(3, none), (12, some 7)], [(12, some 7), (13, some 8)], [(0, none), (12, some 7)], [(12, some 7), (15, some 10)], [(12, some 7), (16, some 11)], [(12, some 7), (17, some 12)], [(12, some 7), (14, some 9), (18, some 13)], [(12, some 7), (19, some 14)], [(20, some 15)], [(3, none), (21, some 16)], [(21, some 16), (22, some 17)], [(21, some 16), (23, some 18)], [(21, some 16), (24, some 19)], [(25, some 20)], [(3, none), (26, some 21)], [(26, some 21), (27, some 22)], [(0, none), (26, some 21)], [(26, some 21), (29, some 24)], [(26, some 21), (30, some 25)], [(26, some 21), (31, some 26)], [(26, some 21), (28, some 23), (32, some 27)], [(26, some 21), (33, some 28)], [(34, some 29)], [(3, none), (35, some 30)], [(35, some 30), (36, some 31)], [(0, none), (35, some 30)], [(35, some 30), (38, some 33)], [(35, some 30), (39, some 34)], [(35, some 30), (40, some 35)], [(35, some 30), (37, some 32), (41, some 36)], [(35, some 30), (42, some 37)], [(43, some 38)]]
    [none, none, none, none, some 39, some 0, some 1, some 2, some 3, some 4, some 5, some 6, some 7, some 8, some 9, some 10, some 11, some 12, some 13, some 14, some 15, some 16, some 17, some 18, some 19, some 20, some 21, some 22, some 23, some 24, some 25, some 26, some 27, some 28, some 29, some 30, some 31, some 32, some 33, some 34, some 35, some 36, some 37, some 38] (by kernel_rfl) (by kernel_rfl) ((Below.refl _ _).drew) ?_
  iterate 40
    refine ex_pure (c := ?_) (fun _ _ => Below.refl _ _) ?_ ?_
    rotate_left
    · intro a' W hR hF
      simp only [FactsOf, List.nil_append, List.cons_append, List.getD_cons_zero, List.getD_cons_succ, exists_eq_left, and_true, List.getElem?_toArray, List.getElem?_cons_zero, List.getElem?_cons_succ] at hF
      obtain ⟨c0, c1, c2, c3, z0, z1, z2, z3, hl, hp⟩ := HCE.out W hR
      refine ⟨?_, ?_⟩
      · simp [Region.wanted, yielded, hF]
      · go_simp
        with_reducible rfl
  show ∀ W, _ → _
  intro w2 hR2
  simp only [FinOf, List.nil_append, List.cons_append, List.getD_cons_zero, List.getD_cons_succ, forall_eq, forall_exists_index, and_imp, Nat.reduceAdd, Array.getD_eq_getD_getElem?, List.getElem?_toArray, List.getElem?_cons_zero, List.getElem?_cons_succ, Option.getD_some]
  go_wp2
  go_ret
  exact ⟨by rw [HE.out]; rfl, HF.out.trans (hR2.mono HF.out.size)⟩
theorem ssend_any (hS : ∀ k, w.heap.size ≤ k → S k) (h : SN g c s S w) (d : List UInt8) : Calls Try.prog 8 #[.pointer (some ⟨g, 0, none⟩), .string (str d)] w fun e w' => e = .returned (.int .i64 (sendE s d)) ∧ SN g c (sendS s d) S w' ∧ Many S w w' := by
  obtain ⟨p, q, m, nn, h, hn, hN⟩ := h
  have HR := Lib.hid (sready_yes h)
  have hsz := str_size d
  unfold sendE sendS
  by_cases h1 : 3000 < d.length
  · rw [if_pos h1, if_pos h1]
    have d1 : decide (3000 < ((str d).size : Int)) = true := decide_eq_true (by omega)
    have HX : Hid (SN g c s S w) := Lib.hid ⟨p, q, m, nn, h, hn, hN⟩
    clear h hn hN h1 hsz
    go_enter Try.func8, Try.ntmps8
    go_wp2_with fail
    refine HR.out.mono ?_
    rintro e w' ⟨rfl, rfl⟩
    go_wp2
    go_ret
    exact ⟨rfl, HX.out, Many.refl S w⟩
  rw [if_neg h1, if_neg h1]
  obtain ⟨E, hE⟩ : ∃ E, E = (if 64 ≤ s.W.length then (10 : Int) else 0) := ⟨_, rfl⟩
  obtain ⟨s2, hs2⟩ : ∃ s2, s2 = (if 64 ≤ s.W.length then s else { s with W := s.W ++ [⟨d, 0⟩] }) := ⟨_, rfl⟩
  rw [← hE, ← hs2]
  have HE := Lib.hid hE
  have HS2 := Lib.hid hs2
  clear hE hs2
  have d1 : decide (3000 < ((str d).size : Int)) = false := decide_eq_false (by omega)
  obtain ⟨-, -, -, -, c4, -, -, -, -, hl⟩ := h.cells
  obtain ⟨W1, hW1⟩ : ∃ W, W = w.alloc (.cells #[.string (str d), .int .i64 0] 46) := ⟨_, rfl⟩
  have hb1 : Below w.heap.size w W1 := hW1 ▸ (Below.refl _ w).alloc (Nat.le_refl _) _
  have hs1 : Sits W1 w.heap.size 46 #[.string (str d), .int .i64 0] := hW1 ▸ Sits.fresh w _ _
  have h9 := h.below hb1
  have hx : SliceAt 2 encM W1 (.slice (some ⟨w.heap.size, 0, none⟩) [(⟨d, 0⟩ : Msg)].length 1) [⟨d, 0⟩] := by
    refine ⟨_, _, rfl, by simp, by simp, fun i hi => ?_⟩
    obtain rfl : i = 0 := by simp at hi; omega
    exact ⟨w.heap.size, 0, rfl, hs1.lt, fun j u hu => by rw [Nat.zero_add, hs1.cell j]; simpa [encM] using hu⟩
  have hpl := h.ring.lt
  have HP := Lib.hid (pushM_any p q 64 s.W [⟨d, 0⟩] (some ⟨w.heap.size, 0, none⟩) 1 (min 1 (64 - s.W.length)) rfl W1 h9.ring hx (fun b' o' _ e => by injection e with e; injection e with e1 e2 _; subst e1; omega))
  have HT : Hid (∀ w' q' W, (q' = q ∨ W1.heap.size ≤ q') → RingM w' p q' 64 W → Two p q W1 w' → SR g p q' m nn { s with W := W } S w' ∧ Many S w w') := Lib.hid fun w' q' W hq hr ht => by
    have := SR.turn (fun k hk => hS k (Nat.le_trans hb1.size hk)) h9 hq hr ht
    exact ⟨this.1, (Many.of_below S hb1).trans this.2⟩
  have HN := Lib.hid hN
  have HNN := Lib.hid hn
  have hlen := h.len
  clear h hn hN hb1 hs1 h9 hx hpl hS h1 hsz
  go_enter Try.func8, Try.ntmps8
  go_wp2_with fail
  refine HR.out.mono ?_
  rintro e w' ⟨rfl, rfl⟩
  go_wp2_with fail
  rw [← hW1]
  clear hW1 c4 hl
  refine HP.out.mono ?_
  rintro e w2 ⟨rfl, q', hq, hr, ht⟩
  have HX := Lib.hid (HT.out w2 q' _ hq hr ht)
  clear hq hr ht
  by_cases h2 : 64 ≤ s.W.length
  · have e0 : min 1 (64 - s.W.length) = 0 := by omega
    rw [e0, List.take_zero, List.append_nil] at HX
    rw [e0]
    have HXX : Hid (SN g c s2 S w2) := Lib.hid (by rw [HS2.out, if_pos h2]; exact ⟨p, q', m, nn, HX.out.1, HNN.out, HN.out⟩)
    have hE : E = 10 := by rw [HE.out, if_pos h2]
    subst hE
    clear h2 e0
    go_wp2
    go_ret
    exact ⟨rfl, HXX.out, HX.out.2⟩
  · have e0 : min 1 (64 - s.W.length) = 1 := by omega
    rw [e0] at HX
    rw [e0]
    have HNB : Near c { s with W := s.W ++ [⟨d, 0⟩] } := ⟨HN.out.A, fun x hx => by
      rcases List.mem_append.1 hx with hx | hx
      · exact HN.out.l x hx
      · rw [List.mem_singleton.1 hx]; exact Nat.zero_le _, HN.out.k, HN.out.n, HN.out.c⟩
    have HXX : Hid (SN g c s2 S w2) := Lib.hid (by rw [HS2.out, if_neg h2]; exact ⟨p, q', m, nn, HX.out.1, HNN.out, HNB⟩)
    have hE : E = 0 := by rw [HE.out, if_neg h2]
    subst hE
    clear h2 e0 HNB
    go_wp2
    go_ret
    exact ⟨rfl, HXX.out, HX.out.2⟩
theorem swaiting_any (h : SN g c s S w) : Calls Try.prog 13 #[.pointer (some ⟨g, 0, none⟩)] w fun e w' => e = .returned (.int .i64 (s.W.length : Int)) ∧ w = w' := by
  obtain ⟨p, q, m, nn, h, -, -⟩ := h
  have HR := Lib.hid (sready_yes h)
  have HL := Lib.hid (lenM_any p q 64 s.W w h.ring)
  obtain ⟨-, -, -, -, c4, -, -, -, -, hl⟩ := h.cells
  clear h
  go_enter Try.func13, Try.ntmps13
  go_wp2_with fail
  refine HR.out.mono ?_
  rintro e w' ⟨rfl, rfl⟩
  go_wp2_with fail
  refine HL.out.mono ?_
  rintro e w' ⟨rfl, rfl⟩
  go_wp2
  go_ret
  exact ⟨rfl, rfl⟩
theorem slife_any (h : SN g c s S w) : Calls Try.prog 14 #[.pointer (some ⟨g, 0, none⟩)] w fun e w' => e = .returned (.int .i64 s.y) ∧ w = w' := by
  obtain ⟨p, q, m, nn, h, -, -⟩ := h
  have HR := Lib.hid (sready_yes h)
  obtain ⟨-, -, -, c3, -, -, -, -, -, hl⟩ := h.cells
  clear h
  go_enter Try.func14, Try.ntmps14
  go_wp2_with fail
  refine HR.out.mono ?_
  rintro e w' ⟨rfl, rfl⟩
  go_wp2
  go_ret
  exact ⟨rfl, rfl⟩
end
end Go.Proofs.Ytbpcbdlmkoajdaa
