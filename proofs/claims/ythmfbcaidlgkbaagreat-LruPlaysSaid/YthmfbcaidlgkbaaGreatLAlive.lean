/- Chapter 5's first call, whose answer the document fixes; the calls on a nil cache. -/
import Derived.Test.YthmfbcaidlgkbaaGreatLruFII
namespace Go.Proofs.YthmfbcaidlgkbaaGreat
open Go Go.RowKit Go.Maps LruP
set_option maxRecDepth 100000
set_option maxHeartbeats 1000000
set_option linter.unusedSimpArgs false

theorem alive5_any (w : World) : Calls Tryz.prog 4 #[] w fun e w' => e = .returned (.bool true) ∧ Below w.heap.size w w' := by
  have wf : ∀ k : Int, 0 ≤ k → k ≤ 100 → wfkII k := fun k h1 h2 => by unfold wfkII; omega
  have WF := Lib.hid wf
  clear wf
  go_enter Tryz.func4, Tryz.ntmps4
  go_wp2_with fail
  refine (lnewII_any 2 w).mono ?_
  rintro e w1 ⟨cb, rfl, hH, hB⟩
  rw [show min (max (2 : Int) 0) 100000 = 2 by decide] at hH
  have H1 := Lib.hid hH
  have B1 := Lib.hid hB
  clear hH hB
  go_wp2_with fail
  refine (lputII_room cb w.heap.size 0 2 [] 1 10 w1 H1.out (by simp) (WF.out 1 (by decide) (by decide)) (by decide) (by decide) B1.out.size).mono ?_
  rintro e w2 ⟨rfl, hH, hO⟩
  have H2 := Lib.hid hH
  have B2 := Lib.hid (B1.out.trans hO.2)
  clear hH hO
  go_wp2_with fail
  refine (lputII_room cb w.heap.size 1 2 [⟨1, 10, 0⟩] 2 20 w2 H2.out (by simp) (WF.out 2 (by decide) (by decide)) (by decide) (by decide) B2.out.size).mono ?_
  rintro e w3 ⟨rfl, hH, hO⟩
  have H3 := Lib.hid hH
  have B3 := Lib.hid (B2.out.trans hO.2)
  clear hH hO
  go_wp2_with fail
  refine (lgetII_in cb w.heap.size 2 2 [⟨2, 20, 0⟩] [] ⟨1, 10, 0⟩ w3 H3.out (by decide) B3.out.size).mono ?_
  rintro e w4 ⟨rfl, hH, hO⟩
  have H4 := Lib.hid hH
  have B4 := Lib.hid (B3.out.trans hO.2)
  clear hH hO
  go_wp2_with fail
  refine (lputII_goes cb w.heap.size 3 2 [⟨1, 10, 0⟩] [] ⟨2, 20, 0⟩ 3 30 w4 H4.out (by simp) (WF.out 3 (by decide) (by decide)) (by decide) rfl (by simp) (by decide) B4.out.size).mono ?_
  rintro e w5 ⟨rfl, hH, hO⟩
  have H5 := Lib.hid hH
  have B5 := Lib.hid (B4.out.trans hO.2)
  clear hH hO
  go_wp2_with fail
  refine (llenII_any cb w.heap.size 4 2 _ w5 H5.out).mono ?_
  rintro e w6 ⟨rfl, rfl⟩
  go_wp2
  go_ret
  exact ⟨rfl, B5.out⟩

theorem lputII_nil (k v : Int) (w : World) : Calls Tryz.prog 8 #[.pointer none, .int .i64 k, .int .i64 v] w fun x w' => x = .returned (.tuple #[.int .i64 0, .int .i64 0, .bool false, .bool false]) ∧ Below w.heap.size w w' := by
  obtain ⟨b0, hb0⟩ : ∃ b0, b0 = w.heap.size := ⟨_, rfl⟩
  have hb1 : Below w.heap.size w (w.alloc (.cells zentII 71)) := (Below.refl _ w).alloc (Nat.le_refl _) _
  have s1 := Sits.fresh w 71 zentII
  have HF := Lib.hid (findII_nil k (w.alloc (.cells zentII 71)))
  have HB1 := Lib.hid hb1
  have HS1 := Lib.hid s1
  clear hb1 s1
  unfold zentII at HF HB1 HS1
  go_enter Tryz.func8, Tryz.ntmps8
  go_wp2_with fail
  refine HF.out.mono ?_
  rintro x w2 ⟨hB2, rfl⟩
  have s2 := HS1.out.below' hB2
  have z0 := s2.cell 0
  have z1 := s2.cell 1
  have HB := Lib.hid (HB1.out.trans (hB2.mono HB1.out.size))
  simp at z0 z1
  clear hB2 s2 HF
  go_wp2_with fail
  go_quiet (fail)
  go_wp2_with fail
  go_returns
  exact ⟨rfl, below_drewN HB.out _⟩
theorem lgetII_nil (k : Int) (w : World) : Calls Tryz.prog 10 #[.pointer none, .int .i64 k] w fun x w' => x = .returned (.tuple #[.int .i64 0, .bool false]) ∧ Below w.heap.size w w' := by
  have HF := Lib.hid (findII_nil k w)
  go_enter Tryz.func10, Tryz.ntmps10
  go_wp2_with fail
  refine HF.out.mono ?_
  rintro x w2 ⟨hB2, rfl⟩
  have HB := Lib.hid hB2
  clear hB2
  go_wp2_with fail
  go_returns
  exact ⟨rfl, HB.out⟩
theorem lpeekII_nil (k : Int) (w : World) : Calls Tryz.prog 15 #[.pointer none, .int .i64 k] w fun x w' => x = .returned (.tuple #[.int .i64 0, .bool false]) ∧ Below w.heap.size w w' := by
  have HF := Lib.hid (findII_nil k w)
  go_enter Tryz.func15, Tryz.ntmps15
  go_wp2_with fail
  refine HF.out.mono ?_
  rintro x w2 ⟨hB2, rfl⟩
  have HB := Lib.hid hB2
  clear hB2
  go_wp2_with fail
  go_returns
  exact ⟨rfl, HB.out⟩
theorem lpinII_nil (k : Int) (w : World) : Calls Tryz.prog 12 #[.pointer none, .int .i64 k] w fun x w' => x = .returned (.bool false) ∧ Below w.heap.size w w' := by
  have HF := Lib.hid (findII_nil k w)
  go_enter Tryz.func12, Tryz.ntmps12
  go_wp2_with fail
  refine HF.out.mono ?_
  rintro x w2 ⟨hB2, rfl⟩
  have HB := Lib.hid hB2
  clear hB2
  go_wp2_with fail
  go_ret
  exact ⟨rfl, HB.out⟩
theorem lunpinII_nil (k : Int) (w : World) : Calls Tryz.prog 13 #[.pointer none, .int .i64 k] w fun x w' => x = .returned (.bool false) ∧ Below w.heap.size w w' := by
  have HF := Lib.hid (findII_nil k w)
  go_enter Tryz.func13, Tryz.ntmps13
  go_wp2_with fail
  refine HF.out.mono ?_
  rintro x w2 ⟨hB2, rfl⟩
  have HB := Lib.hid hB2
  clear hB2
  go_wp2_with fail
  go_ret
  exact ⟨rfl, HB.out⟩
theorem lpinnedII_nil (k : Int) (w : World) : Calls Tryz.prog 16 #[.pointer none, .int .i64 k] w fun x w' => x = .returned (.int .i64 0) ∧ Below w.heap.size w w' := by
  have HF := Lib.hid (findII_nil k w)
  go_enter Tryz.func16, Tryz.ntmps16
  go_wp2_with fail
  refine HF.out.mono ?_
  rintro x w2 ⟨hB2, rfl⟩
  have HB := Lib.hid hB2
  clear hB2
  go_wp2_with fail
  go_ret
  exact ⟨rfl, HB.out⟩
theorem ldeleteII_nil (k : Int) (w : World) : Calls Tryz.prog 14 #[.pointer none, .int .i64 k] w fun x w' => x = .returned (.bool false) ∧ Below w.heap.size w w' := by
  have HF := Lib.hid (findII_nil k w)
  go_enter Tryz.func14, Tryz.ntmps14
  go_wp2_with fail
  refine HF.out.mono ?_
  rintro x w2 ⟨hB2, rfl⟩
  have HB := Lib.hid hB2
  clear hB2
  go_wp2_with fail
  go_ret
  exact ⟨rfl, HB.out⟩
theorem llenII_nil (w : World) : Calls Tryz.prog 20 #[.pointer none] w fun x w' => x = .returned (.int .i64 0) ∧ w = w' := by
  go_enter Tryz.func20, Tryz.ntmps20
  go_wp2
  go_ret
  exact ⟨rfl, rfl⟩
theorem lroomII_nil (w : World) : Calls Tryz.prog 21 #[.pointer none] w fun x w' => x = .returned (.int .i64 0) ∧ w = w' := by
  go_enter Tryz.func21, Tryz.ntmps21
  go_wp2
  go_ret
  exact ⟨rfl, rfl⟩
theorem lkeysII_nil (w : World) : Calls Tryz.prog 17 #[.pointer none] w fun x w' => x = .returned (.slice none 0 0) ∧ w = w' := by
  go_enter Tryz.func17, Tryz.ntmps17
  go_wp2_with fail
  refine (llenII_nil w).mono ?_
  rintro e w' ⟨rfl, rfl⟩
  go_wp2
  go_ret
  exact ⟨rfl, rfl⟩
end Go.Proofs.YthmfbcaidlgkbaaGreat
