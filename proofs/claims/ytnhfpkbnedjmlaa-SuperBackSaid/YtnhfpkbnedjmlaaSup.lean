/- Package super: Valid, Size, LogAt, BlockAt. -/
import Derived.Test.YtnhfpkbnedjmlaaSupP
import Derived.Test.YtnhfpkbnedjmlaaKit
import Derived.Test.YtnhfpkbnedjmlaaBase
import Derived.Test.YtnhfpkbnedjmlaaFlat
import Derived.BigQuiet
import Derived.IntWalk
namespace Go.Proofs.Ytnhfpkbnedjmlaa
open Go Go.RowKit SupP
set_option maxRecDepth 100000
set_option maxHeartbeats 1000000
set_option linter.unusedSimpArgs false

def aggH (s : Sh) : Value := .agg #[.int .i64 s.n, .int .i64 s.b, .int .i64 s.l, .int .i64 s.c, .int .i64 s.t]
theorem iswithin_is (v a b : Int) (r : Bool) (h : withinB v a b = r) (w : World) : Calls Try.prog 12 #[.int .i64 v, .int .i64 a, .int .i64 b] w fun e w' => e = .returned (.bool r) ∧ w = w' := by
  subst h
  unfold withinB
  by_cases h1 : a ≤ v
  · have d1 : decide (a ≤ v) = true := decide_eq_true h1
    have d2 : decide (v ≥ a) = true := decide_eq_true h1
    go_enter Try.func12, Try.ntmps12
    go_wp2
    go_ret
    exact ⟨by simp [h1], rfl⟩
  · have d1 : decide (a ≤ v) = false := decide_eq_false h1
    have d2 : decide (v ≥ a) = false := decide_eq_false h1
    go_enter Try.func12, Try.ntmps12
    go_wp2
    go_ret
    exact ⟨by simp [h1], rfl⟩
theorem bcell {W w1 : World} (hb : Below W.heap.size W w1) : (∀ b o, b < W.heap.size → w1.cell? ⟨b, o, none⟩ = W.cell? ⟨b, o, none⟩) ∧ (∀ b o, b < W.heap.size → w1.frozen? ⟨b, o, none⟩ = W.frozen? ⟨b, o, none⟩) :=
  ⟨fun b o h => hb.cell (p := ⟨b, o, none⟩) h, fun b o h => hb.frozen (p := ⟨b, o, none⟩) h⟩
theorem svalid_any (s : Sh) (w : World) : Calls Try.prog 5 #[aggH s] w fun e w' => e = .returned (.bool (validB s)) ∧ Below w.heap.size w w' := by
  obtain ⟨n, b, l, c, t⟩ := s
  unfold aggH validB
  simp only
  obtain ⟨b1, h1⟩ : ∃ r, withinB n 1 16 = r := ⟨_, rfl⟩
  obtain ⟨b2, h2⟩ : ∃ r, withinB b 1 4096 = r := ⟨_, rfl⟩
  obtain ⟨b3, h3⟩ : ∃ r, withinB l 8 256 = r := ⟨_, rfl⟩
  obtain ⟨b4, h4⟩ : ∃ r, withinB c 2 1000 = r := ⟨_, rfl⟩
  obtain ⟨b5, h5⟩ : ∃ r, withinB t 32 1000 = r := ⟨_, rfl⟩
  have H1 := Lib.hid h1
  have H2 := Lib.hid h2
  have H3 := Lib.hid h3
  have H4 := Lib.hid h4
  have H5 := Lib.hid h5
  rw [h1, h2, h3, h4, h5]
  clear h1 h2 h3 h4 h5
  rcases six b1 b2 b3 b4 with rfl | ⟨rfl, rfl⟩ | ⟨rfl, rfl, rfl⟩ | ⟨rfl, rfl, rfl, rfl⟩ | ⟨rfl, rfl, rfl, rfl⟩
  all_goals
    go_enter Try.func5, Try.ntmps5
    go_wp2_with (first
      | ((with_reducible refine (iswithin_is n 1 16 _ H1.out _).mono ?_); rintro e w' ⟨rfl, rfl⟩)
      | ((with_reducible refine (iswithin_is b 1 4096 _ H2.out _).mono ?_); rintro e w' ⟨rfl, rfl⟩)
      | ((with_reducible refine (iswithin_is l 8 256 _ H3.out _).mono ?_); rintro e w' ⟨rfl, rfl⟩)
      | ((with_reducible refine (iswithin_is c 2 1000 _ H4.out _).mono ?_); rintro e w' ⟨rfl, rfl⟩)
      | ((with_reducible refine (iswithin_is t 32 1000 _ H5.out _).mono ?_); rintro e w' ⟨rfl, rfl⟩))
    go_ret
    exact ⟨by simp, (Below.refl _ _).alloc (Nat.le_refl _) _⟩
theorem blocksat_any (s : Sh) (h : 0 ≤ s.n * s.l ∧ s.n * s.l ≤ 4096) (w : World) : Calls Try.prog 17 #[aggH s] w fun e w' => e = .returned (.int .i64 (blocksAt s)) ∧ Below w.heap.size w w' := by
  obtain ⟨n, b, l, c, t⟩ := s
  unfold aggH blocksAt
  simp only at h ⊢
  obtain ⟨h1, h2⟩ := h
  have e1 : IntKind.i64.wrap (n * l) = n * l := IntWalk.i64_in _ (by omega)
  have e2 : IntKind.i64.wrap (1 + n * l) = 1 + n * l := IntWalk.i64_in _ (by omega)
  go_enter Try.func17, Try.ntmps17
  go_wp2
  go_ret
  exact ⟨rfl, (Below.refl _ _).alloc (Nat.le_refl _) _⟩
theorem ssize_ok (s : Sh) (h : Valid s) (w : World) : Calls Try.prog 9 #[aggH s] w fun e w' => e = .returned (.int .i64 (sizeS s)) ∧ Below w.heap.size w w' := by
  have hm := mul_bound (show 0 ≤ s.n by have := h.n1; omega) h.n2 (show 0 ≤ s.l by have := h.l1; omega) h.l2
  have hb1 := h.b1
  have hb2 := h.b2
  have gv := fun W : World => svalid_any s W
  rw [validB_iff.2 h] at gv
  have gb := fun W : World => blocksat_any s hm W
  have HS := Lib.hid (size_valid h)
  have hq0 : 0 ≤ blocksAt s := by unfold blocksAt; omega
  have hq1 : blocksAt s ≤ 5000 := by unfold blocksAt; omega
  obtain ⟨q, hq⟩ : ∃ q, blocksAt s = q := ⟨_, rfl⟩
  rw [hq] at gb HS hq0 hq1
  clear hq hm h
  obtain ⟨n, b, l, c, t⟩ := s
  unfold aggH at gv gb ⊢
  simp only at hb1 hb2 HS gv gb ⊢
  have e1 : IntKind.i64.wrap (b * 2) = b * 2 := IntWalk.i64_in _ (by omega)
  have e2 : IntKind.i64.wrap (q + b * 2) = q + b * 2 := IntWalk.i64_in _ (by omega)
  have HV := Lib.hid gv
  have HB := Lib.hid gb
  clear gv gb
  go_enter Try.func9, Try.ntmps9
  go_wp2_with fail
  refine (HV.out _).mono ?_
  rintro e w1 ⟨rfl, hb⟩
  obtain ⟨hc, hf⟩ := bcell hb
  have hs : Sits (w.alloc (.cells #[.int .i64 n, .int .i64 b, .int .i64 l, .int .i64 c, .int .i64 t] 23)) w.heap.size 23 #[.int .i64 n, .int .i64 b, .int .i64 l, .int .i64 c, .int .i64 t] := Sits.fresh w _ _
  have HS1 := Lib.hid (hs.below' hb)
  have HB1 := Lib.hid (((Below.refl w.heap.size w).alloc (Nat.le_refl _) _).trans (hb.mono (by simp)))
  obtain ⟨p, hp⟩ : ∃ p, p = w.heap.size := ⟨_, rfl⟩
  go_wp2_with fail
  rw [← hp] at HS1 ⊢
  clear hs hb hc hf
  have HPP := Lib.hid hp
  clear hp
  refine wp_region_ex (by kernel_rfl) (fun W => Sits W p 23 #[.int .i64 n, .int .i64 b, .int .i64 l, .int .i64 c, .int .i64 t] ∧ Below w.heap.size w W) (fun W W' => Below W.heap.size W W')
    [[(1, none)], [(6, some 0)], [(1, none)], [(8, some 2)], [(9, some 3)], [(7, some 1), (10, some 4)], [(11, some 5)]]
    [none, none, some 6, none, none, none, some 0, some 1, some 2, some 3, some 4, some 5] (by kernel_rfl) (by kernel_rfl) (⟨HS1.out, ⟨HB1.out.os, HB1.out.tape, HB1.out.output, HB1.out.size, HB1.out.block⟩⟩) ?_
  iterate 1
    refine ex_pure (c := ?_) (fun _ _ => Below.refl _ _) ?_ ?_
    rotate_left
    · intro a' W hR hF
      simp only [FactsOf, List.nil_append, List.cons_append, List.getD_cons_zero, List.getD_cons_succ, exists_eq_left, and_true, List.getElem?_toArray, List.getElem?_cons_zero, List.getElem?_cons_succ] at hF
      have c0 := hR.1.cell 0
      have c1 := hR.1.cell 1
      have c2 := hR.1.cell 2
      have c3 := hR.1.cell 3
      have c4 := hR.1.cell 4
      refine ⟨?_, ?_⟩
      · simp [Region.wanted, yielded, hF]
      · go_simp
        with_reducible rfl
  refine ex_callx (.int .i64 q) (fun a' W hR hF => ?_) ?_
  · skip
    simp only [FactsOf, List.nil_append, List.cons_append, List.getD_cons_zero, List.getD_cons_succ, exists_eq_left, and_true, List.getElem?_toArray, List.getElem?_cons_zero, List.getElem?_cons_succ] at hF
    refine ⟨by simp [Region.wanted, yielded, hF], 17, #[.agg #[.int .i64 n, .int .i64 b, .int .i64 l, .int .i64 c, .int .i64 t]], by go_simp, (HB.out W).mono fun e w' ⟨he, hb⟩ => ⟨he, ⟨hR.1.below' hb, hR.2.trans (hb.mono hR.2.size)⟩, hb⟩⟩
  iterate 5
    refine ex_pure (c := ?_) (fun _ _ => Below.refl _ _) ?_ ?_
    rotate_left
    · intro a' W hR hF
      simp only [FactsOf, List.nil_append, List.cons_append, List.getD_cons_zero, List.getD_cons_succ, exists_eq_left, and_true, List.getElem?_toArray, List.getElem?_cons_zero, List.getElem?_cons_succ] at hF
      have c1 := hR.1.cell 1
      refine ⟨?_, ?_⟩
      · simp [Region.wanted, yielded, hF]
      · go_simp
        with_reducible rfl
  show ∀ W, _ → _
  intro w5 hR2
  simp only [FinOf, List.nil_append, List.cons_append, List.getD_cons_zero, List.getD_cons_succ, forall_eq, forall_exists_index, and_imp, Nat.reduceAdd, Array.getD_eq_getD_getElem?, List.getElem?_toArray, List.getElem?_cons_zero, List.getElem?_cons_succ, Option.getD_some]
  have HR := Lib.hid hR2
  clear hR2
  go_wp2
  go_ret
  exact ⟨by rw [HS.out]; rfl, HR.out.2⟩
theorem slogat_ok (s : Sh) (h : Valid s) (k : Int) (h1 : 1 ≤ k) (h2 : k ≤ s.n) (w : World) : Calls Try.prog 7 #[aggH s, .int .i64 k] w fun e w' => e = .returned (.tuple #[.int .i64 (1 + (k - 1) * s.l), .int .i64 0]) ∧ Below w.heap.size w w' := by
  have hm := mul_bound (n := k - 1) (by omega) (by have := h.n2; omega) (show 0 ≤ s.l by have := h.l1; omega) h.l2
  have gv := fun W : World => svalid_any s W
  rw [validB_iff.2 h] at gv
  have hn2 := h.n2
  have hw : withinB k 1 s.n = true := by simp [withinB, h1, h2]
  clear h
  obtain ⟨n, b, l, c, t⟩ := s
  unfold aggH at gv ⊢
  simp only at gv hm hn2 h2 hw ⊢
  obtain ⟨m1, m2⟩ := hm
  have e1 : IntKind.i64.wrap (k - 1) = k - 1 := IntWalk.i64_in _ (by omega)
  have e2 : IntKind.i64.wrap ((k - 1) * l) = (k - 1) * l := IntWalk.i64_in _ (by omega)
  have e3 : IntKind.i64.wrap (1 + (k - 1) * l) = 1 + (k - 1) * l := IntWalk.i64_in _ (by omega)
  have HV := Lib.hid gv
  have HW := Lib.hid hw
  clear gv hw
  go_enter Try.func7, Try.ntmps7
  go_wp2_with fail
  refine (HV.out _).mono ?_
  rintro e w1 ⟨rfl, hb⟩
  obtain ⟨hc, hf⟩ := bcell hb
  go_wp2_with fail
  refine (iswithin_is _ _ _ _ HW.out _).mono ?_
  rintro e w2 ⟨rfl, rfl⟩
  go_wp2
  go_ret2
  exact ⟨rfl, ((Below.refl _ _).alloc (Nat.le_refl _) _).trans (hb.mono (by simp))⟩
theorem sblockat_ok (s : Sh) (h : Valid s) (k : Int) (h1 : 0 ≤ k) (h2 : k < s.b) (w : World) : Calls Try.prog 8 #[aggH s, .int .i64 k] w fun e w' => e = .returned (.tuple #[.int .i64 (blocksAt s + k * 2), .int .i64 0]) ∧ Below w.heap.size w w' := by
  have hm := mul_bound (show 0 ≤ s.n by have := h.n1; omega) h.n2 (show 0 ≤ s.l by have := h.l1; omega) h.l2
  have gv := fun W : World => svalid_any s W
  rw [validB_iff.2 h] at gv
  have gb := fun W : World => blocksat_any s hm W
  have hb2 := h.b2
  have hq0 : 0 ≤ blocksAt s := by unfold blocksAt; omega
  have hq1 : blocksAt s ≤ 5000 := by unfold blocksAt; omega
  have hw : withinB k 0 (s.b - 1) = true := by simp [withinB, h1]; omega
  obtain ⟨q, hq⟩ : ∃ q, blocksAt s = q := ⟨_, rfl⟩
  rw [hq] at gb hq0 hq1
  rw [hq]
  clear h hm hq
  obtain ⟨n, b, l, c, t⟩ := s
  unfold aggH at gv gb ⊢
  simp only at gv gb hb2 h2 hw ⊢
  have e1 : IntKind.i64.wrap (b - 1) = b - 1 := IntWalk.i64_in _ (by omega)
  have e2 : IntKind.i64.wrap (k * 2) = k * 2 := IntWalk.i64_in _ (by omega)
  have e3 : IntKind.i64.wrap (q + k * 2) = q + k * 2 := IntWalk.i64_in _ (by omega)
  have HV := Lib.hid gv
  have HB := Lib.hid gb
  have HW := Lib.hid hw
  clear gv gb hw
  go_enter Try.func8, Try.ntmps8
  go_wp2_with fail
  refine (HV.out _).mono ?_
  rintro e w1 ⟨rfl, hb⟩
  obtain ⟨hc, hf⟩ := bcell hb
  go_wp2_with fail
  refine (iswithin_is _ _ _ _ HW.out _).mono ?_
  rintro e w2 ⟨rfl, rfl⟩
  go_wp2_with fail
  refine (HB.out _).mono ?_
  rintro e w2 ⟨rfl, hb2⟩
  go_wp2
  go_ret2
  exact ⟨rfl, ((Below.refl _ _).alloc (Nat.le_refl _) _).trans ((hb.mono (by simp)).trans (hb2.mono (by have := hb.size; simp at this; omega)))⟩
end Go.Proofs.Ytnhfpkbnedjmlaa
