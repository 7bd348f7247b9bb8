/- The document's own shapes (commonsref8): ValidShape, Size, BlockAt, PutShape of a shape that may be. -/
import Derived.Test.YtmlhncheodpbpaaGreatGF
import Derived.Test.YtmlhncheodpbpaaGreatRefWX
import Derived.Test.YtmlhncheodpbpaaGreatGB
import Derived.Test.YtmlhncheodpbpaaGreatBlkE
namespace Go.Proofs.YtmlhncheodpbpaaGreat
open Go Go.RowKit SupP
set_option maxRecDepth 100000
set_option maxHeartbeats 1000000
set_option linter.unusedSimpArgs false

theorem rvalid_ok (s : Sh) (h : Valid s) (w : World) : Calls Tryz.prog 66 #[aggH s] w fun e w' => e = .returned (.bool true) ∧ Below w.heap.size w w' := by
  obtain ⟨n, b, l, c, t⟩ := s
  obtain ⟨h1, h2, h3, h4, h5, h6, h7, h8, h9, h10⟩ := h
  simp only at h1 h2 h3 h4 h5 h6 h7 h8 h9 h10
  unfold aggH
  simp only
  have d1 : decide (1 ≤ n) = true := decide_eq_true h1
  have d2 : decide (n ≤ 16) = true := decide_eq_true h2
  have d3 : decide (1 ≤ b) = true := decide_eq_true h3
  have d4 : decide (b ≤ 4096) = true := decide_eq_true h4
  have d5 : decide (8 ≤ l) = true := decide_eq_true h5
  have d6 : decide (l ≤ 256) = true := decide_eq_true h6
  have d7 : decide (2 ≤ c) = true := decide_eq_true h7
  have d8 : decide (c ≤ 1000) = true := decide_eq_true h8
  have d9 : decide (32 ≤ t) = true := decide_eq_true h9
  have d10 : decide (t ≤ 1000) = true := decide_eq_true h10
  clear h1 h2 h3 h4 h5 h6 h7 h8 h9 h10
  go_enter Tryz.func66, Tryz.ntmps66
  go_wp2
  go_ret
  exact ⟨rfl, (Below.refl _ w).alloc (Nat.le_refl _) _⟩
theorem rsize_ok (s : Sh) (h : Valid s) (w : World) : Calls Tryz.prog 32 #[aggH s] w fun e w' => e = .returned (.int .i64 (sizeS s)) ∧ Below w.heap.size w w' := by
  have hm := mul_bound (show 0 ≤ s.n by have := h.n1; omega) h.n2 (show 0 ≤ s.l by have := h.l1; omega) h.l2
  have gv := fun W : World => rvalid_ok s h W
  have hb2 := h.b2
  have hb1 := h.b1
  rw [size_valid h, blocksAt]
  clear h
  obtain ⟨n, b, l, c, t⟩ := s
  unfold aggH at gv ⊢
  simp only at gv hm hb1 hb2 ⊢
  have HV := Lib.hid gv
  obtain ⟨m, hmm⟩ : ∃ m, m = n * l := ⟨_, rfl⟩
  have e0 : IntKind.i64.wrap (n * l) = n * l := IntWalk.i64_in _ (by omega)
  have e1 : IntKind.i64.wrap (1 + n * l) = 1 + n * l := IntWalk.i64_in _ (by omega)
  have e2 : IntKind.i64.wrap (2 * b) = 2 * b := IntWalk.i64_in _ (by omega)
  have e3 : IntKind.i64.wrap (1 + n * l + 2 * b) = 1 + n * l + 2 * b := IntWalk.i64_in _ (by omega)
  have HE : Hid (1 + n * l + b * 2 = 1 + n * l + 2 * b) := Lib.hid (by omega)
  rw [HE.out]
  clear gv hm hmm hb1 hb2
  have hb0 : Below w.heap.size w (w.alloc (.cells #[.int .i64 n, .int .i64 b, .int .i64 l, .int .i64 c, .int .i64 t] 37)) := (Below.refl w.heap.size w).alloc (Nat.le_refl _) _
  have HS : Hid (Sits (w.alloc (.cells #[.int .i64 n, .int .i64 b, .int .i64 l, .int .i64 c, .int .i64 t] 37)) w.heap.size 37 #[.int .i64 n, .int .i64 b, .int .i64 l, .int .i64 c, .int .i64 t]) := Lib.hid (Sits.fresh w _ _)
  have HB := Lib.hid hb0
  clear hb0
  go_enter Tryz.func32, Tryz.ntmps32
  go_wp2_with fail
  (with_reducible refine (HV.out _).mono ?_)
  rintro e w1 ⟨rfl, hb⟩
  have hs := HS.out.below' hb
  have c0 : w1.cell? ⟨w.heap.size, 0, none⟩ = some (.int .i64 n) := hs.cell 0
  have c1 : w1.cell? ⟨w.heap.size, 1, none⟩ = some (.int .i64 b) := hs.cell 1
  have c2 : w1.cell? ⟨w.heap.size, 2, none⟩ = some (.int .i64 l) := hs.cell 2
  have HB1 := Lib.hid (HB.out.trans (hb.mono HB.out.size))
  clear hs hb
  go_wp2
  go_ret
  exact ⟨rfl, HB1.out⟩
theorem rblockat_ok (s : Sh) (h : Valid s) (k : Int) (ho : outB s k = false) (w : World) : Calls Tryz.prog 52 #[aggH s, .int .i64 k] w fun e w' => e = .returned (.tuple #[.int .i64 (placeOf s k), .int .i64 0]) ∧ Below w.heap.size w w' := by
  obtain ⟨k1, k2⟩ := not_out ho
  have hm := mul_bound (show 0 ≤ s.n by have := h.n1; omega) h.n2 (show 0 ≤ s.l by have := h.l1; omega) h.l2
  have gv := fun W : World => rvalid_ok s h W
  have hb2 := h.b2
  rw [placeOf, blocksAt]
  clear h ho
  obtain ⟨n, b, l, c, t⟩ := s
  unfold aggH at gv ⊢
  simp only at gv hm hb2 k2 ⊢
  have HV := Lib.hid gv
  obtain ⟨m, hmm⟩ : ∃ m, m = n * l := ⟨_, rfl⟩
  have e0 : IntKind.i64.wrap (n * l) = n * l := IntWalk.i64_in _ (by omega)
  have e1 : IntKind.i64.wrap (1 + n * l) = 1 + n * l := IntWalk.i64_in _ (by omega)
  have e2 : IntKind.i64.wrap (2 * k) = 2 * k := IntWalk.i64_in _ (by omega)
  have e3 : IntKind.i64.wrap (1 + n * l + 2 * k) = 1 + n * l + 2 * k := IntWalk.i64_in _ (by omega)
  have HE : Hid (1 + n * l + k * 2 = 1 + n * l + 2 * k) := Lib.hid (by omega)
  rw [HE.out]
  have d1 : decide (k < 0) = false := decide_eq_false (by omega)
  have d2 : decide (b ≤ k) = false := decide_eq_false (by omega)
  clear gv hm hmm hb2 k1 k2
  have HS : Hid (Sits (w.alloc (.cells #[.int .i64 n, .int .i64 b, .int .i64 l, .int .i64 c, .int .i64 t] 37)) w.heap.size 37 #[.int .i64 n, .int .i64 b, .int .i64 l, .int .i64 c, .int .i64 t]) := Lib.hid (Sits.fresh w _ _)
  have HB : Hid (Below w.heap.size w (w.alloc (.cells #[.int .i64 n, .int .i64 b, .int .i64 l, .int .i64 c, .int .i64 t] 37))) := Lib.hid ((Below.refl w.heap.size w).alloc (Nat.le_refl _) _)
  go_enter Tryz.func52, Tryz.ntmps52
  go_wp2_with fail
  (with_reducible refine (HV.out _).mono ?_)
  rintro e w1 ⟨rfl, hb⟩
  have hs := HS.out.below' hb
  have c0 : w1.cell? ⟨w.heap.size, 0, none⟩ = some (.int .i64 n) := hs.cell 0
  have c1 : w1.cell? ⟨w.heap.size, 1, none⟩ = some (.int .i64 b) := hs.cell 1
  have c2 : w1.cell? ⟨w.heap.size, 2, none⟩ = some (.int .i64 l) := hs.cell 2
  have HB1 := Lib.hid (HB.out.trans (hb.mono HB.out.size))
  clear hs hb
  go_wp2
  go_ret2
  exact ⟨rfl, HB1.out⟩
theorem rblockat_out (s : Sh) (h : Valid s) (k : Int) (ho : outB s k = true) (w : World) : Calls Tryz.prog 52 #[aggH s, .int .i64 k] w fun e w' => e = .returned (.tuple #[.int .i64 0, .int .i64 30]) ∧ Below w.heap.size w w' := by
  have gv := fun W : World => rvalid_ok s h W
  have hk : k < 0 ∨ s.b ≤ k := by
    unfold outB at ho
    simpa using ho
  clear h ho
  obtain ⟨n, b, l, c, t⟩ := s
  unfold aggH at gv ⊢
  simp only at gv hk ⊢
  have HV := Lib.hid gv
  have HS : Hid (Sits (w.alloc (.cells #[.int .i64 n, .int .i64 b, .int .i64 l, .int .i64 c, .int .i64 t] 37)) w.heap.size 37 #[.int .i64 n, .int .i64 b, .int .i64 l, .int .i64 c, .int .i64 t]) := Lib.hid (Sits.fresh w _ _)
  have HB : Hid (Below w.heap.size w (w.alloc (.cells #[.int .i64 n, .int .i64 b, .int .i64 l, .int .i64 c, .int .i64 t] 37))) := Lib.hid ((Below.refl w.heap.size w).alloc (Nat.le_refl _) _)
  clear gv
  by_cases h1 : k < 0
  · have d1 : decide (k < 0) = true := decide_eq_true h1
    clear hk h1
    go_enter Tryz.func52, Tryz.ntmps52
    go_wp2_with fail
    (with_reducible refine (HV.out _).mono ?_)
    rintro e w1 ⟨rfl, hb⟩
    have HB1 := Lib.hid (HB.out.trans (hb.mono HB.out.size))
    clear hb
    go_wp2
    go_ret2
    exact ⟨rfl, HB1.out⟩
  · have d1 : decide (k < 0) = false := decide_eq_false h1
    have d2 : decide (b ≤ k) = true := decide_eq_true (by omega)
    clear hk h1
    go_enter Tryz.func52, Tryz.ntmps52
    go_wp2_with fail
    (with_reducible refine (HV.out _).mono ?_)
    rintro e w1 ⟨rfl, hb⟩
    have hs := HS.out.below' hb
    have c1 : w1.cell? ⟨w.heap.size, 1, none⟩ = some (.int .i64 b) := hs.cell 1
    have HB1 := Lib.hid (HB.out.trans (hb.mono HB.out.size))
    clear hs hb
    go_wp2
    go_ret2
    exact ⟨rfl, HB1.out⟩
end Go.Proofs.YtmlhncheodpbpaaGreat
