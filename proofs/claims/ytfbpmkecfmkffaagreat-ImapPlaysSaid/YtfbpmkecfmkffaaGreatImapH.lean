/- Package imap at int: a nil map has nothing; and chapter 7's first calls (alive). -/
import Derived.Test.YtfbpmkecfmkffaaGreatImapG
namespace Go.Proofs.YtfbpmkecfmkffaaGreat
open Go Go.RowKit SpanP PartP ImapP
set_option maxRecDepth 100000
set_option maxHeartbeats 1000000
set_option linter.unusedSimpArgs false

theorem get_nil (c : Int) (w : World) : Calls Tryz.prog 18 #[.pointer none, .int .i64 c] w fun e w' => e = .returned (.tuple #[.int .i64 0, .bool false]) ∧ w = w' := by
  go_enter Tryz.func18, Tryz.ntmps18
  go_wp2
  go_ret2
  exact ⟨rfl, rfl⟩
theorem set_nil (a b v : Int) (w : World) : Calls Tryz.prog 7 #[.pointer none, .agg #[.int .i64 a, .int .i64 b], .int .i64 v] w fun e w' => e = .returned (.bool false) ∧ Below w.heap.size w w' := by
  go_enter Tryz.func7, Tryz.ntmps7
  go_wp2
  go_ret
  exact ⟨rfl, (Below.refl _ w).alloc (Nat.le_refl _) _⟩
theorem clear_nil (a b : Int) (w : World) : Calls Tryz.prog 9 #[.pointer none, .agg #[.int .i64 a, .int .i64 b]] w fun e w' => e = .returned (.bool false) ∧ Below w.heap.size w w' := by
  go_enter Tryz.func9, Tryz.ntmps9
  go_wp2
  go_ret
  exact ⟨rfl, (Below.refl _ w).alloc (Nat.le_refl _) _⟩
theorem parts_nil (a b : Int) (w : World) : Calls Tryz.prog 14 #[.pointer none, .agg #[.int .i64 a, .int .i64 b]] w fun e w' => e = .returned (.slice none 0 0) ∧ Below w.heap.size w w' := by
  go_enter Tryz.func14, Tryz.ntmps14
  go_wp2
  go_ret
  exact ⟨rfl, (Below.refl _ w).alloc (Nat.le_refl _) _⟩
theorem all_nil (w : World) : Calls Tryz.prog 13 #[.pointer none] w fun e w' => e = .returned (.slice none 0 0) ∧ w = w' := by
  go_enter Tryz.func13, Tryz.ntmps13
  go_wp2
  go_ret
  exact ⟨rfl, rfl⟩
theorem with_nil (v : Int) (w : World) : Calls Tryz.prog 15 #[.pointer none, .int .i64 v] w fun e w' => e = .returned (.slice none 0 0) ∧ w = w' := by
  go_enter Tryz.func15, Tryz.ntmps15
  go_wp2
  go_ret
  exact ⟨rfl, rfl⟩
theorem mlen_nil (w : World) : Calls Tryz.prog 23 #[.pointer none] w fun e w' => e = .returned (.int .i64 0) ∧ w = w' := by
  go_enter Tryz.func23, Tryz.ntmps23
  go_wp2
  go_ret
  exact ⟨rfl, rfl⟩
theorem swap_nil (a b v u : Int) (w : World) : Calls Tryz.prog 12 #[.pointer none, .agg #[.int .i64 a, .int .i64 b], .int .i64 v, .int .i64 u] w fun e w' => e = .returned (.int .i64 0) ∧ Below w.heap.size w w' := by
  have hb : Below w.heap.size w (w.alloc (.cells #[.int .i64 a, .int .i64 b] 50)) := (Below.refl _ w).alloc (Nat.le_refl _) _
  have HB := Lib.hid hb
  clear hb
  go_enter Tryz.func12, Tryz.ntmps12
  go_wp2_with fail
  refine (parts_nil a b _).mono ?_
  rintro e w2 ⟨rfl, hB2⟩
  have HB2 := Lib.hid (HB.out.trans (hB2.mono HB.out.size))
  clear hB2
  go_wp2_with fail
  refine wp_loop_rounds 1 ?_
  rw [rounds_succ]
  go_wp2
  go_ret
  exact ⟨rfl, HB2.out⟩

theorem alive7_map : MapOf ([((0, 3), 1), ((3, 5), 2), ((5, 9), 1)] : List (PtV Int)) fun b u => (Has (3, 5) b ∧ 2 = u) ∨ (((Has (0, 9) b ∧ 1 = u) ∨ (Val ([] : List (PtV Int)) b u ∧ ¬ Has (0, 9) b)) ∧ ¬ Has (3, 5) b) := by
  refine ⟨⟨by simp [Ok], by simp⟩, fun b u => ?_⟩
  rw [val_cons, val_cons, val_one]
  have h0 : Val ([] : List (PtV Int)) b u ↔ False := ⟨val_nil b u, False.elim⟩
  rw [h0]
  unfold Has Ok
  simp only [false_and, or_false]
  omega
theorem alive7_any (w : World) : Calls Tryz.prog 4 #[] w fun e w' => e = .returned (.bool true) ∧ Below w.heap.size w w' := by
  go_enter Tryz.func4, Tryz.ntmps4
  go_wp2_with fail
  refine (newI_any w).mono ?_
  rintro e w1 ⟨p, rfl, hp, hM, hB⟩
  have HM := Lib.hid hM
  have HB := Lib.hid hB
  have HP := Lib.hid hp
  clear hp hM hB
  go_wp2_with fail
  refine (setI_any p [] (0, 9) 1 w1 HM.out (by unfold top; omega) (by simp)).mono ?_
  rintro e w2 ⟨rfl, l1, hM1, hm1, hl1, hO1⟩
  rw [show decide (Ok (0, 9)) = true by decide]
  have HM1 := Lib.hid hM1
  have HB1 := Lib.hid (Below.then_only HB.out hO1 HP.out HB.out.size)
  have Hm1 := Lib.hid hm1
  have Hl1 : Hid (l1.length ≤ 2) := Lib.hid (by simpa using hl1)
  clear hM1 hm1 hl1 hO1
  go_wp2_with fail
  refine (setI_any p l1 (3, 5) 2 w2 HM1.out (by unfold top; omega) (by have := Hl1.out; omega)).mono ?_
  rintro e w3 ⟨rfl, l2, hM2, hm2, hl2, hO2⟩
  rw [show decide (Ok (3, 5)) = true by decide]
  have e2 : l2 = [((0, 3), 1), ((3, 5), 2), ((5, 9), 1)] := hm2.eq alive7_map fun b u => by rw [Hm1.out.val]
  subst e2
  have HM2 := Lib.hid hM2
  have HB2 := Lib.hid (Below.then_only HB1.out hO2 HP.out HB1.out.size)
  clear hM2 hm2 hl2 hO2
  go_wp2_with fail
  refine (getI_any p _ 4 w3 HM2.out (by simp)).mono ?_
  rintro e w4 ⟨rfl, hB4⟩
  rw [show blockV ([((0, 3), 1), ((3, 5), 2), ((5, 9), 1)] : List (PtV Int)) 4 = some 2 by rfl]
  have HM4 := Lib.hid (HM2.out.below hB4)
  have HB4 := Lib.hid (HB2.out.trans (hB4.mono HB2.out.size))
  clear hB4
  go_wp2_with fail
  refine (allI_any p _ w4 HM4.out (by simp)).mono ?_
  rintro e w5 ⟨x, rfl, hX, hB5⟩
  have HM5 := Lib.hid (HM4.out.below hB5)
  have HB5 := Lib.hid (HB4.out.trans (hB5.mono HB4.out.size))
  obtain ⟨A, cap, rfl, -, -, h3⟩ := hX.parts.read
  obtain ⟨b, o, rfl, hbs, c0, c1, c2⟩ := h3 1 (by simp)
  simp at c0 c1
  clear h3 hX hB5
  go_wp2_with fail
  refine (mlen_any p _ w5 HM5.out).mono ?_
  rintro e w6 ⟨rfl, rfl⟩
  go_wp2
  go_ret
  exact ⟨rfl, HB5.out⟩
end Go.Proofs.YtfbpmkecfmkffaaGreat
