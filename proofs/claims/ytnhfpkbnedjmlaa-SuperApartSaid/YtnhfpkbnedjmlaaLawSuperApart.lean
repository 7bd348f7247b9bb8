/- The statement SuperApart of package super: logs and blocks stand apart from each other, behind the superblock, and within the size; it holds of every shape and every four ints. -/
import Derived.Test.YtnhfpkbnedjmlaaSupG
import Derived.ChangeOld
namespace Go.Proofs.Ytnhfpkbnedjmlaa
open Go Go.RowKit Go.ChangeShapes Go.WideShapes Go.ChangeAt SupP
set_option maxRecDepth 100000
set_option maxHeartbeats 2000000
set_option linter.unusedSimpArgs false

theorem first_true {b0 b1 b2 b3 b4 b5 b6 : Bool} (h : (b0 || b1 || b2 || b3 || b4 || b5 || b6) = true) : b0 = true ∨ (b0 = false ∧ b1 = true) ∨ (b0 = false ∧ b1 = false ∧ b2 = true) ∨ (b0 = false ∧ b1 = false ∧ b2 = false ∧ b3 = true) ∨
    (b0 = false ∧ b1 = false ∧ b2 = false ∧ b3 = false ∧ b4 = true) ∨ (b0 = false ∧ b1 = false ∧ b2 = false ∧ b3 = false ∧ b4 = false ∧ b5 = true) ∨ (b0 = false ∧ b1 = false ∧ b2 = false ∧ b3 = false ∧ b4 = false ∧ b5 = false ∧ b6 = true) := by
  cases b0 <;> cases b1 <;> cases b2 <;> cases b3 <;> cases b4 <;> cases b5 <;> cases b6 <;> simp_all
theorem superApart_no (s : Sh) (a b x y : Int) (w : World) (v b1 b2 b3 b4 b5 b6 : Bool) (d0 : validB s = !v) (d1 : decide (a < 1) = b1) (d2 : decide (b ≤ a) = b2) (d3 : decide (s.n < b) = b3) (d4 : decide (x < 0) = b4) (d5 : decide (y ≤ x) = b5) (d6 : decide (s.b ≤ y) = b6)
    (h : (v || b1 || b2 || b3 || b4 || b5 || b6) = true) : Calls Try.prog 3 #[aggH s, .int .i64 a, .int .i64 b, .int .i64 x, .int .i64 y] w fun e w' => e = .returned (.bool true) ∧ Below w.heap.size w w' := by
  have gv := fun W : World => svalid_any s W
  rw [d0] at gv
  clear d0
  obtain ⟨n, bl, l, c, t⟩ := s
  unfold aggH at gv ⊢
  simp only at gv d3 d6 ⊢
  have HV := Lib.hid gv
  have HA := Lib.hid alive9_any
  clear gv
  obtain ⟨wa, hwa⟩ : ∃ wa, wa = w.alloc (.cells #[.int .i64 n, .int .i64 bl, .int .i64 l, .int .i64 c, .int .i64 t] 23) := ⟨_, rfl⟩
  have HBA : Hid (Below w.heap.size w wa) := Lib.hid (by rw [hwa]; exact (Below.refl w.heap.size w).alloc (Nat.le_refl _) _)
  have HSA : Hid (Sits wa w.heap.size 23 #[.int .i64 n, .int .i64 bl, .int .i64 l, .int .i64 c, .int .i64 t]) := Lib.hid (by rw [hwa]; exact Sits.fresh w _ _)
  rcases first_true h with rfl | ⟨rfl, rfl⟩ | ⟨rfl, rfl, rfl⟩ | ⟨rfl, rfl, rfl, rfl⟩ | ⟨rfl, rfl, rfl, rfl, rfl⟩ | ⟨rfl, rfl, rfl, rfl, rfl, rfl⟩ | ⟨rfl, rfl, rfl, rfl, rfl, rfl, rfl⟩
  all_goals
    clear h
    simp only [Bool.not_true, Bool.not_false] at HV
    go_enter Try.func3, Try.ntmps3
    go_wp2_with fail
    rw [← hwa]
    clear hwa
    (with_reducible refine (HV.out _).mono ?_)
    rintro e w1 ⟨rfl, hb⟩
    have hs := HSA.out.below' hb
    have HB1 := Lib.hid (HBA.out.trans (hb.mono HBA.out.size))
    have c0 : w1.cell? ⟨w.heap.size, 0, none⟩ = some (.int .i64 n) := hs.cell 0
    have c1 : w1.cell? ⟨w.heap.size, 1, none⟩ = some (.int .i64 bl) := hs.cell 1
    clear hb hs
    go_wp2_with fail
    (with_reducible refine (HA.out _).mono ?_)
    rintro e w2 ⟨rfl, hb⟩
    have HB2 := Lib.hid (HB1.out.trans (hb.mono HB1.out.size))
    clear hb
    go_wp2
    go_ret
    exact ⟨rfl, HB2.out⟩
theorem superApart_yes (s : Sh) (a b x y : Int) (w : World) (h : Valid s) (h1 : ¬ a < 1) (h2 : ¬ b ≤ a) (h3 : ¬ s.n < b) (h4 : ¬ x < 0) (h5 : ¬ y ≤ x) (h6 : ¬ s.b ≤ y) :
    Calls Try.prog 3 #[aggH s, .int .i64 a, .int .i64 b, .int .i64 x, .int .i64 y] w fun e w' => e = .returned (.bool true) ∧ Below w.heap.size w w' := by
  obtain ⟨A, hA⟩ : ∃ A, A = 1 + (a - 1) * s.l := ⟨_, rfl⟩
  obtain ⟨B, hB⟩ : ∃ B, B = 1 + (b - 1) * s.l := ⟨_, rfl⟩
  obtain ⟨K, hK⟩ : ∃ K, K = blocksAt s + x * 2 := ⟨_, rfl⟩
  obtain ⟨M, hM⟩ : ∃ M, M = blocksAt s + y * 2 := ⟨_, rfl⟩
  obtain ⟨Z, hZ⟩ : ∃ Z, Z = sizeS s := ⟨_, rfl⟩
  have hl1 := h.l1
  have hl2 := h.l2
  have hb2 := h.b2
  have hn2 := h.n2
  have m1 := mul_bound (n := a - 1) (l := s.l) (by omega) (by omega) (by omega) (by omega)
  have m2 : (a - 1 + 1) * s.l ≤ (b - 1) * s.l := Int.mul_le_mul_of_nonneg_right (by omega) (by omega)
  have m3 : (b - 1 + 1) * s.l ≤ s.n * s.l := Int.mul_le_mul_of_nonneg_right (by omega) (by omega)
  rw [Int.add_mul, Int.one_mul] at m2 m3
  have m4 := mul_bound (n := s.n) (l := s.l) (by omega) (by omega) (by omega) (by omega)
  have q1 : 1 ≤ A := by omega
  have q2 : A + s.l ≤ B := by omega
  have q3 : B + s.l ≤ K := by rw [hB, hK]; unfold blocksAt; omega
  have q4 : K + 2 ≤ M := by omega
  have q5 : M + 2 ≤ Z := by rw [hM, hZ, size_valid h]; omega
  have q6 : Z ≤ 20000 := by rw [hZ]; have := size_bound h; omega
  have HA := Lib.hid alive9_any
  have HV : Hid (∀ W : World, Calls Try.prog 5 #[aggH s] W fun e w' => e = .returned (.bool true) ∧ Below W.heap.size W w') := Lib.hid fun W => by have := svalid_any s W; rwa [validB_iff.2 h] at this
  have HLA : Hid (∀ W : World, Calls Try.prog 7 #[aggH s, .int .i64 a] W fun e w' => e = .returned (.tuple #[.int .i64 A, .int .i64 0]) ∧ Below W.heap.size W w') := Lib.hid fun W => by rw [hA]; exact slogat_ok s h a (by omega) (by omega) W
  have HLB : Hid (∀ W : World, Calls Try.prog 7 #[aggH s, .int .i64 b] W fun e w' => e = .returned (.tuple #[.int .i64 B, .int .i64 0]) ∧ Below W.heap.size W w') := Lib.hid fun W => by rw [hB]; exact slogat_ok s h b (by omega) (by omega) W
  have HBK : Hid (∀ W : World, Calls Try.prog 8 #[aggH s, .int .i64 x] W fun e w' => e = .returned (.tuple #[.int .i64 K, .int .i64 0]) ∧ Below W.heap.size W w') := Lib.hid fun W => by rw [hK]; exact sblockat_ok s h x (by omega) (by omega) W
  have HBM : Hid (∀ W : World, Calls Try.prog 8 #[aggH s, .int .i64 y] W fun e w' => e = .returned (.tuple #[.int .i64 M, .int .i64 0]) ∧ Below W.heap.size W w') := Lib.hid fun W => by rw [hM]; exact sblockat_ok s h y (by omega) (by omega) W
  have HSZ : Hid (∀ W : World, Calls Try.prog 9 #[aggH s] W fun e w' => e = .returned (.int .i64 Z) ∧ Below W.heap.size W w') := Lib.hid fun W => by rw [hZ]; exact ssize_ok s h W
  clear m1 m2 m3 m4 hA hB hK hM hZ h hb2 hn2
  obtain ⟨n, bl, l, c, t⟩ := s
  unfold aggH at HV HLA HLB HBK HBM HSZ ⊢
  simp only at HV HLA HLB HBK HBM HSZ h3 h6 hl1 hl2 q2 q3 ⊢
  obtain ⟨wa, hwa⟩ : ∃ wa, wa = w.alloc (.cells #[.int .i64 n, .int .i64 bl, .int .i64 l, .int .i64 c, .int .i64 t] 23) := ⟨_, rfl⟩
  obtain ⟨pa, hpa⟩ : ∃ pa, pa = w.heap.size := ⟨_, rfl⟩
  have HBA : Hid (Below w.heap.size w wa) := Lib.hid (by rw [hwa]; exact (Below.refl w.heap.size w).alloc (Nat.le_refl _) _)
  have HSA : Hid (Sits wa pa 23 #[.int .i64 n, .int .i64 bl, .int .i64 l, .int .i64 c, .int .i64 t]) := Lib.hid (by rw [hwa, hpa]; exact Sits.fresh w _ _)
  go_enter Try.func3, Try.ntmps3
  go_wp2_with fail
  rw [← hwa, ← hpa]
  clear hwa hpa
  (with_reducible refine (HV.out _).mono ?_)
  rintro e w1 ⟨rfl, hb⟩
  have hs := HSA.out.below' hb
  have HS1 := Lib.hid hs
  have HB1 := Lib.hid (HBA.out.trans (hb.mono HBA.out.size))
  have c0 : w1.cell? ⟨pa, 0, none⟩ = some (.int .i64 n) := hs.cell 0
  have c1 : w1.cell? ⟨pa, 1, none⟩ = some (.int .i64 bl) := hs.cell 1
  have c2 : w1.cell? ⟨pa, 2, none⟩ = some (.int .i64 l) := hs.cell 2
  have c3 : w1.cell? ⟨pa, 3, none⟩ = some (.int .i64 c) := hs.cell 3
  have c4 : w1.cell? ⟨pa, 4, none⟩ = some (.int .i64 t) := hs.cell 4
  clear hb hs
  obtain ⟨wc, hwc⟩ : ∃ wc, wc = w1.alloc (.cells #[.int .i64 n, .int .i64 bl, .int .i64 l, .int .i64 c, .int .i64 t] 27) := ⟨_, rfl⟩
  obtain ⟨pc, hpc⟩ : ∃ pc, pc = w1.heap.size := ⟨_, rfl⟩
  have hbc : Below w1.heap.size w1 wc := by rw [hwc]; exact (Below.refl w1.heap.size w1).alloc (Nat.le_refl _) _
  have HSC : Hid (Sits wc pc 27 #[.int .i64 n, .int .i64 bl, .int .i64 l, .int .i64 c, .int .i64 t]) := Lib.hid (by rw [hwc, hpc]; exact Sits.fresh w1 _ _)
  have HS2 := Lib.hid (HS1.out.below' hbc)
  have HB2 := Lib.hid (HB1.out.trans (hbc.mono HB1.out.size))
  clear hbc
  go_wp2_with fail
  rw [← hwc, ← hpc]
  clear hwc hpc c0 c1 c2 c3 c4
  (with_reducible refine (HLA.out _).mono ?_)
  rintro e w3 ⟨rfl, hb⟩
  have hc := HSC.out.below' hb
  have HC3 := Lib.hid hc
  have HS3 := Lib.hid (HS2.out.below' hb)
  have HB3 := Lib.hid (HB2.out.trans (hb.mono HB2.out.size))
  have e0 : w3.cell? ⟨pc, 0, none⟩ = some (.int .i64 n) := hc.cell 0
  have e1 : w3.cell? ⟨pc, 1, none⟩ = some (.int .i64 bl) := hc.cell 1
  have e2 : w3.cell? ⟨pc, 2, none⟩ = some (.int .i64 l) := hc.cell 2
  have e3 : w3.cell? ⟨pc, 3, none⟩ = some (.int .i64 c) := hc.cell 3
  have e4 : w3.cell? ⟨pc, 4, none⟩ = some (.int .i64 t) := hc.cell 4
  clear hb hc
  go_wp2_with fail
  clear e0 e1 e2 e3 e4
  (with_reducible refine (HLB.out _).mono ?_)
  rintro e w4 ⟨rfl, hb⟩
  have hc := HC3.out.below' hb
  have HC4 := Lib.hid hc
  have HS4 := Lib.hid (HS3.out.below' hb)
  have HB4 := Lib.hid (HB3.out.trans (hb.mono HB3.out.size))
  have e0 : w4.cell? ⟨pc, 0, none⟩ = some (.int .i64 n) := hc.cell 0
  have e1 : w4.cell? ⟨pc, 1, none⟩ = some (.int .i64 bl) := hc.cell 1
  have e2 : w4.cell? ⟨pc, 2, none⟩ = some (.int .i64 l) := hc.cell 2
  have e3 : w4.cell? ⟨pc, 3, none⟩ = some (.int .i64 c) := hc.cell 3
  have e4 : w4.cell? ⟨pc, 4, none⟩ = some (.int .i64 t) := hc.cell 4
  clear hb hc
  go_wp2_with fail
  clear e0 e1 e2 e3 e4
  (with_reducible refine (HBK.out _).mono ?_)
  rintro e w5 ⟨rfl, hb⟩
  have hc := HC4.out.below' hb
  have HS5 := Lib.hid (HS4.out.below' hb)
  have HB5 := Lib.hid (HB4.out.trans (hb.mono HB4.out.size))
  have e0 : w5.cell? ⟨pc, 0, none⟩ = some (.int .i64 n) := hc.cell 0
  have e1 : w5.cell? ⟨pc, 1, none⟩ = some (.int .i64 bl) := hc.cell 1
  have e2 : w5.cell? ⟨pc, 2, none⟩ = some (.int .i64 l) := hc.cell 2
  have e3 : w5.cell? ⟨pc, 3, none⟩ = some (.int .i64 c) := hc.cell 3
  have e4 : w5.cell? ⟨pc, 4, none⟩ = some (.int .i64 t) := hc.cell 4
  clear hb hc
  go_wp2_with fail
  clear e0 e1 e2 e3 e4
  (with_reducible refine (HBM.out _).mono ?_)
  rintro e w6 ⟨rfl, hb⟩
  have HS6 := Lib.hid (HS5.out.below' hb)
  have HB6 := Lib.hid (HB5.out.trans (hb.mono HB5.out.size))
  clear hb
  go_wp2_with fail
  (with_reducible refine (HA.out _).mono ?_)
  rintro e w7 ⟨rfl, hb⟩
  have hs := HS6.out.below' hb
  have HB7 := Lib.hid (HB6.out.trans (hb.mono HB6.out.size))
  have c0 : w7.cell? ⟨pa, 0, none⟩ = some (.int .i64 n) := hs.cell 0
  have c1 : w7.cell? ⟨pa, 1, none⟩ = some (.int .i64 bl) := hs.cell 1
  have c2 : w7.cell? ⟨pa, 2, none⟩ = some (.int .i64 l) := hs.cell 2
  have c3 : w7.cell? ⟨pa, 3, none⟩ = some (.int .i64 c) := hs.cell 3
  have c4 : w7.cell? ⟨pa, 4, none⟩ = some (.int .i64 t) := hs.cell 4
  clear hb hs
  have d1 : decide (1 ≤ A) = true := decide_eq_true q1
  have d2 : decide (A + l ≤ B) = true := decide_eq_true q2
  have d3 : decide (B + l ≤ K) = true := decide_eq_true q3
  have d4 : decide (K + 2 ≤ M) = true := decide_eq_true q4
  have d5 : decide (M + 2 ≤ Z) = true := decide_eq_true q5
  go_wp2_with fail
  (with_reducible refine (HSZ.out _).mono ?_)
  rintro e w8 ⟨rfl, hb⟩
  have HB8 := Lib.hid (HB7.out.trans (hb.mono HB7.out.size))
  clear hb
  go_wp2
  go_ret
  exact ⟨rfl, HB8.out⟩
theorem superApart_walk (v : Value) (s : Sh) (a : Int) (_wa : (Lit.int .i64 a).wf = true) (b : Int) (_wb : (Lit.int .i64 b).wf = true) (x : Int) (_wx : (Lit.int .i64 x).wf = true) (y : Int) (_wy : (Lit.int .i64 y).wf = true) (w : World) (hs : (In64 s.n ∧ In64 s.b ∧ In64 s.l ∧ In64 s.c ∧ In64 s.t) ∧ v = aggH s) :
    Calls Try.prog 3 #[v, .int .i64 a, .int .i64 b, .int .i64 x, .int .i64 y] w fun e w' => e = .returned (.bool true) ∧ Below w.heap.size w w' := by
  obtain ⟨-, rfl⟩ := hs
  clear _wa _wb _wx _wy
  by_cases hh : (validB s = true) ∧ ¬ a < 1 ∧ ¬ b ≤ a ∧ ¬ s.n < b ∧ ¬ x < 0 ∧ ¬ y ≤ x ∧ ¬ s.b ≤ y
  · obtain ⟨h0, h1, h2, h3, h4, h5, h6⟩ := hh
    exact superApart_yes s a b x y w (validB_iff.1 h0) h1 h2 h3 h4 h5 h6
  · refine superApart_no s a b x y w (!(validB s)) _ _ _ _ _ _ (by simp) rfl rfl rfl rfl rfl rfl ?_
    cases hv : validB s
    · simp
    · have ho : a < 1 ∨ b ≤ a ∨ s.n < b ∨ x < 0 ∨ y ≤ x ∨ s.b ≤ y := by
        false_or_by_contra
        exact hh ⟨hv, by omega, by omega, by omega, by omega, by omega, by omega⟩
      rcases ho with h | h | h | h | h | h <;> simp [h]

set_option maxRecDepth 100000 in
theorem superApart_lifted (os : Os) (started : os.Started) (H : Type) (enc : TypeId × Value → H) :
    ReturnsInHanded {} Try.checked os 3 .any (Rows.superApartSpec.pre6 enc Try.prog Try.f3 Rows.superApartRow.domain false) (Rows.superApartSpec.post enc Try.prog Try.f3 false true false false) := by
  refine returnsInHanded_of_change (C := Try.checked) own started (by kernel_rfl) Try.func3
    (ChangeSpec.witness6 (enc := enc) (C := Try.checked) false ⟨#[], #[.agg #[.int .i64 0, .int .i64 0, .int .i64 0, .int .i64 0, .int .i64 0], .int .i64 0, .int .i64 0, .int .i64 0, .int .i64 0], []⟩ 8 (by kernel_rfl) (by kernel_rfl) (by kernel_rfl) (by kernel_rfl)) ?_
  intro W base args ds gs before hval0 hW _ _
  have hval : ∀ (j : Nat) t v, Try.f3.params[j]? = some t → args[j]? = some v → Value.okWide Try.prog W .any base t v := hval0
  have hW' := hW
  obtain ⟨p, q, hA0, hV, rfl, hfz, hnd⟩ := hW
  have hA : DataW.TrodAll enc Try.prog W 0 (fun _ => true) true Try.f3.params.toList args.toList ds p := hA0
  rw [Try.params3] at hA hval
  obtain ⟨v0, vs0, d0, ds0, p0, q0, hargs, rfl, rfl, h0, r0⟩ := trodAll_cons hA
  obtain ⟨v1, vs1, d1, ds1, p1, q1, rfl, rfl, rfl, h1, r1⟩ := trodAll_cons r0
  obtain ⟨v2, vs2, d2, ds2, p2, q2, rfl, rfl, rfl, h2, r2⟩ := trodAll_cons r1
  obtain ⟨v3, vs3, d3, ds3, p3, q3, rfl, rfl, rfl, h3, r3⟩ := trodAll_cons r2
  obtain ⟨v4, vs4, d4, ds4, p4, q4, rfl, rfl, rfl, h4, r4⟩ := trodAll_cons r3
  obtain ⟨rfl, rfl, rfl⟩ := trodAll_nil r4
  obtain rfl : args = #[v0, v1, v2, v3, v4] := by cases args; simp_all
  obtain ⟨rfl, rfl⟩ := trodVars_none hV
  have k0 := h0
  have lt0 : ∀ x ∈ p0, x.block < W.heap.size := by obtain ⟨m, hm⟩ := k0; exact DataW.trod_lt m _ _ _ hm
  have k1 := h1
  have lt1 : ∀ x ∈ p1, x.block < W.heap.size := by obtain ⟨m, hm⟩ := k1; exact DataW.trod_lt m _ _ _ hm
  have k2 := h2
  have lt2 : ∀ x ∈ p2, x.block < W.heap.size := by obtain ⟨m, hm⟩ := k2; exact DataW.trod_lt m _ _ _ hm
  have k3 := h3
  have lt3 : ∀ x ∈ p3, x.block < W.heap.size := by obtain ⟨m, hm⟩ := k3; exact DataW.trod_lt m _ _ _ hm
  have k4 := h4
  have lt4 : ∀ x ∈ p4, x.block < W.heap.size := by obtain ⟨m, hm⟩ := k4; exact DataW.trod_lt m _ _ _ hm
  obtain ⟨a0, w0⟩ := shape_open (hval 0 23 v0 rfl rfl) k0
  obtain ⟨a1, rfl, rfl, rfl, w1⟩ := open_int Try.underlying3 (hval 1 3 v1 rfl rfl) h1
  obtain ⟨a2, rfl, rfl, rfl, w2⟩ := open_int Try.underlying3 (hval 2 3 v2 rfl rfl) h2
  obtain ⟨a3, rfl, rfl, rfl, w3⟩ := open_int Try.underlying3 (hval 3 3 v3 rfl rfl) h3
  obtain ⟨a4, rfl, rfl, rfl, w4⟩ := open_int Try.underlying3 (hval 4 3 v4 rfl rfl) h4
  clear hA0 hval0
  refine (superApart_walk v0 a0 a1 w1 a2 w2 a3 w3 a4 w4 W w0).mono fun e W' ⟨he, bel⟩ => ?_
  subst he
  exact ⟨_, rfl, _, _, _, [], _, [], hW', trodAll_mk1 (shut_bool Try.underlying4 _), (trodAll_cons_mk (Below.trod laidOut (by kernel_rfl) (of_decide_eq_true (by kernel_rfl)) k0 bel lt0) (trodAll_cons_mk (Below.trod laidOut (by kernel_rfl) (of_decide_eq_true (by kernel_rfl)) k1 bel lt1) (trodAll_cons_mk (Below.trod laidOut (by kernel_rfl) (of_decide_eq_true (by kernel_rfl)) k2 bel lt2) (trodAll_cons_mk (Below.trod laidOut (by kernel_rfl) (of_decide_eq_true (by kernel_rfl)) k3 bel lt3) (trodAll_cons_mk (Below.trod laidOut (by kernel_rfl) (of_decide_eq_true (by kernel_rfl)) k4 bel lt4) trodAll_mk0))))), rfl, bel.frame _, fun h => by cases h⟩

theorem superApart_said : Rows.SuperApartSaid :=
  OpenClaim.holds_of_wide 3 Try.f3 rfl rfl rfl rfl rfl rfl rfl ⟨rfl, rfl, rfl, rfl, rfl⟩ rfl rfl rfl rfl rfl (by kernel_rfl) Try.func3 (by kernel_rfl)
    (of_decide_eq_true (by kernel_rfl)) (by unfold Func.isWrapper; first | (rw [if_pos (by decide +kernel)]; kernel_rfl) | (rw [if_neg (by decide +kernel)]; exact ⟨rfl, rfl⟩))
    (fun os started H enc _ => superApart_lifted os started H enc)
#print axioms superApart_said
end Go.Proofs.Ytnhfpkbnedjmlaa
