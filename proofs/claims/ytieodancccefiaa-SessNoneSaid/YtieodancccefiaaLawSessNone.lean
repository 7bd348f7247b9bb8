/- The statement SessNone of package sess: a nil session and a zero one take nothing, send nothing and tell nothing; it holds of every frame. -/
import Derived.Test.YtieodancccefiaaFrmL
import Derived.Test.YtieodancccefiaaSesJ
import Derived.ShutString
import Derived.Deep.Cut
namespace Go.Proofs.Ytieodancccefiaa
open Go Go.RowKit Go.ChangeShapes Go.WideShapes Go.ChangeMaps Go.ChangeAt
set_option maxRecDepth 100000
set_option maxHeartbeats 4000000
set_option linter.unusedSimpArgs false

theorem nsend_nil (x : ByteArray) (w : World) : Calls Try.prog 16 #[.pointer none, .string x] w fun e w' => e = .returned (.int .i64 1) ∧ w = w' := by
  go_enter Try.func16, Try.ntmps16
  go_wp2_with fail
  refine (sready_nil w).mono ?_
  rintro e w' ⟨rfl, rfl⟩
  go_wp2
  go_ret
  exact ⟨rfl, rfl⟩
theorem nsend_zero {g : Nat} (x : ByteArray) (w : World) (c4 : w.cell? ⟨g, 4, none⟩ = some (.pointer none)) : Calls Try.prog 16 #[.pointer (some ⟨g, 0, none⟩), .string x] w fun e w' => e = .returned (.int .i64 1) ∧ w = w' := by
  go_enter Try.func16, Try.ntmps16
  go_wp2_with fail
  refine (sready_zero c4).mono ?_
  rintro e w' ⟨rfl, rfl⟩
  go_wp2
  go_ret
  exact ⟨rfl, rfl⟩
theorem ntick_nil (w : World) : Calls Try.prog 17 #[.pointer none] w fun e w' => e = .returned (.slice none 0 0) ∧ w = w' := by
  go_enter Try.func17, Try.ntmps17
  go_wp2_with fail
  refine (sready_nil w).mono ?_
  rintro e w' ⟨rfl, rfl⟩
  go_wp2
  go_ret
  exact ⟨rfl, rfl⟩
theorem ntick_zero {g : Nat} (w : World) (c4 : w.cell? ⟨g, 4, none⟩ = some (.pointer none)) : Calls Try.prog 17 #[.pointer (some ⟨g, 0, none⟩)] w fun e w' => e = .returned (.slice none 0 0) ∧ w = w' := by
  go_enter Try.func17, Try.ntmps17
  go_wp2_with fail
  refine (sready_zero c4).mono ?_
  rintro e w' ⟨rfl, rfl⟩
  go_wp2
  go_ret
  exact ⟨rfl, rfl⟩
theorem nout_nil (w : World) : Calls Try.prog 18 #[.pointer none] w fun e w' => e = .returned (.slice none 0 0) ∧ w = w' := by
  go_enter Try.func18, Try.ntmps18
  go_wp2_with fail
  refine (sready_nil w).mono ?_
  rintro e w' ⟨rfl, rfl⟩
  go_wp2
  go_ret
  exact ⟨rfl, rfl⟩
theorem nout_zero {g : Nat} (w : World) (c4 : w.cell? ⟨g, 4, none⟩ = some (.pointer none)) : Calls Try.prog 18 #[.pointer (some ⟨g, 0, none⟩)] w fun e w' => e = .returned (.slice none 0 0) ∧ w = w' := by
  go_enter Try.func18, Try.ntmps18
  go_wp2_with fail
  refine (sready_zero c4).mono ?_
  rintro e w' ⟨rfl, rfl⟩
  go_wp2
  go_ret
  exact ⟨rfl, rfl⟩
theorem nwaiting_nil (w : World) : Calls Try.prog 19 #[.pointer none] w fun e w' => e = .returned (.int .i64 0) ∧ w = w' := by
  go_enter Try.func19, Try.ntmps19
  go_wp2_with fail
  refine (sready_nil w).mono ?_
  rintro e w' ⟨rfl, rfl⟩
  go_wp2
  go_ret
  exact ⟨rfl, rfl⟩
theorem nwaiting_zero {g : Nat} (w : World) (c4 : w.cell? ⟨g, 4, none⟩ = some (.pointer none)) : Calls Try.prog 19 #[.pointer (some ⟨g, 0, none⟩)] w fun e w' => e = .returned (.int .i64 0) ∧ w = w' := by
  go_enter Try.func19, Try.ntmps19
  go_wp2_with fail
  refine (sready_zero c4).mono ?_
  rintro e w' ⟨rfl, rfl⟩
  go_wp2
  go_ret
  exact ⟨rfl, rfl⟩
theorem npeer_nil (w : World) : Calls Try.prog 20 #[.pointer none] w fun e w' => e = .returned (.int .i64 0) ∧ w = w' := by
  go_enter Try.func20, Try.ntmps20
  go_wp2_with fail
  refine (sready_nil w).mono ?_
  rintro e w' ⟨rfl, rfl⟩
  go_wp2
  go_ret
  exact ⟨rfl, rfl⟩
theorem npeer_zero {g : Nat} (w : World) (c4 : w.cell? ⟨g, 4, none⟩ = some (.pointer none)) : Calls Try.prog 20 #[.pointer (some ⟨g, 0, none⟩)] w fun e w' => e = .returned (.int .i64 0) ∧ w = w' := by
  go_enter Try.func20, Try.ntmps20
  go_wp2_with fail
  refine (sready_zero c4).mono ?_
  rintro e w' ⟨rfl, rfl⟩
  go_wp2
  go_ret
  exact ⟨rfl, rfl⟩
theorem nlife_nil (w : World) : Calls Try.prog 21 #[.pointer none] w fun e w' => e = .returned (.int .i64 0) ∧ w = w' := by
  go_enter Try.func21, Try.ntmps21
  go_wp2_with fail
  refine (sready_nil w).mono ?_
  rintro e w' ⟨rfl, rfl⟩
  go_wp2
  go_ret
  exact ⟨rfl, rfl⟩
theorem nlife_zero {g : Nat} (w : World) (c4 : w.cell? ⟨g, 4, none⟩ = some (.pointer none)) : Calls Try.prog 21 #[.pointer (some ⟨g, 0, none⟩)] w fun e w' => e = .returned (.int .i64 0) ∧ w = w' := by
  go_enter Try.func21, Try.ntmps21
  go_wp2_with fail
  refine (sready_zero c4).mono ?_
  rintro e w' ⟨rfl, rfl⟩
  go_wp2
  go_ret
  exact ⟨rfl, rfl⟩
theorem ntake_none (f : Frm) (w : World) : Calls Try.prog 15 #[.pointer none, aggF f] w fun e w' => e = .returned (.tuple #[.slice none 0 0, .bool false]) ∧ Below w.heap.size w w' := by
  unfold aggF
  have HB := Lib.hid ((Below.refl w.heap.size w).alloc (Nat.le_refl _) (.cells #[.int .i64 f.f, .int .i64 f.t, .int .i64 f.m, .int .i64 f.y, .int .i64 f.s, .int .i64 f.a, .string (str f.d), .bool f.h] 23))
  go_enter Try.func15, Try.ntmps15
  go_wp2_with fail
  refine (sready_nil _).mono ?_
  rintro e w' ⟨rfl, rfl⟩
  go_wp2
  go_ret2
  exact ⟨rfl, HB.out⟩
theorem sessNone_long (f : Frm) (w : World) (h : 300 < f.d.length) :
    Calls Try.prog 4 #[aggF f] w fun e w' => e = .returned (.bool true) ∧ Below w.heap.size w w' := by
  have HA := Lib.hid alive15_any
  unfold aggF
  have hz := str_size f.d
  have d1 : decide (300 < ((str f.d).size : Int)) = true := decide_eq_true (by omega)
  clear h hz
  go_enter Try.func4, Try.ntmps4
  go_wp2_with fail
  (with_reducible refine (HA.out _).mono ?_)
  rintro e w1 ⟨rfl, hb⟩
  have HF := Lib.hid (((Below.refl w.heap.size w).alloc (Nat.le_refl _) _).trans (hb.mono (by simp)))
  clear hb
  go_wp2
  go_ret
  exact ⟨rfl, HF.out⟩
theorem sessNone_short (f : Frm) (w : World) (h : ¬ 300 < f.d.length) :
    Calls Try.prog 4 #[aggF f] w fun e w' => e = .returned (.bool true) ∧ Below w.heap.size w w' := by
  have HA := Lib.hid alive15_any
  have HT := Lib.hid (ntake_none f)
  have d1 : decide (300 < ((str f.d).size : Int)) = false := decide_eq_false (by rw [str_size]; omega)
  unfold aggF at HT ⊢
  obtain ⟨D, hD⟩ : ∃ D, D = str f.d := ⟨_, rfl⟩
  rw [← hD] at d1 HT
  rw [← hD]
  clear hD h
  obtain ⟨wa, hwa⟩ : ∃ wa, wa = w.alloc (.cells #[.int .i64 f.f, .int .i64 f.t, .int .i64 f.m, .int .i64 f.y, .int .i64 f.s, .int .i64 f.a, .string D, .bool f.h] 23) := ⟨_, rfl⟩
  obtain ⟨g, hg⟩ : ∃ g, g = wa.heap.size := ⟨_, rfl⟩
  obtain ⟨wb, hwb⟩ : ∃ wb, wb = wa.alloc (.cells #[.int .i64 0, .int .i64 0, .int .i64 0, .int .i64 0, .pointer none, .int .i64 0, .int .i64 0, .map none, .bool false] 40) := ⟨_, rfl⟩
  have hba : Below w.heap.size w wa := hwa ▸ (Below.refl _ w).alloc (Nat.le_refl _) _
  have hbb : Below wa.heap.size wa wb := hwb ▸ (Below.refl _ wa).alloc (Nat.le_refl _) _
  have hsa : Sits wa w.heap.size 23 #[.int .i64 f.f, .int .i64 f.t, .int .i64 f.m, .int .i64 f.y, .int .i64 f.s, .int .i64 f.a, .string D, .bool f.h] := hwa ▸ Sits.fresh w _ _
  have HS := Lib.hid (hsa.below' hbb)
  have HZ : Hid (Sits wb g 40 #[.int .i64 0, .int .i64 0, .int .i64 0, .int .i64 0, .pointer none, .int .i64 0, .int .i64 0, .map none, .bool false]) := Lib.hid (by rw [hwb, hg]; exact Sits.fresh wa _ _)
  have HB := Lib.hid (hba.trans (hbb.mono hba.size))
  have a0 : wb.cell? ⟨w.heap.size, 0, none⟩ = some (.int .i64 f.f) := HS.out.cell 0
  have a1 : wb.cell? ⟨w.heap.size, 1, none⟩ = some (.int .i64 f.t) := HS.out.cell 1
  have a2 : wb.cell? ⟨w.heap.size, 2, none⟩ = some (.int .i64 f.m) := HS.out.cell 2
  have a3 : wb.cell? ⟨w.heap.size, 3, none⟩ = some (.int .i64 f.y) := HS.out.cell 3
  have a4 : wb.cell? ⟨w.heap.size, 4, none⟩ = some (.int .i64 f.s) := HS.out.cell 4
  have a5 : wb.cell? ⟨w.heap.size, 5, none⟩ = some (.int .i64 f.a) := HS.out.cell 5
  have a6 : wb.cell? ⟨w.heap.size, 6, none⟩ = some (.string D) := HS.out.cell 6
  have a7 : wb.cell? ⟨w.heap.size, 7, none⟩ = some (.bool f.h) := HS.out.cell 7
  have al := HS.out.lt
  have x6 : wa.cell? ⟨w.heap.size, 6, none⟩ = some (.string D) := hsa.cell 6
  have xl := hsa.lt
  have HWB := Lib.hid (And.intro hwb hg)
  clear hba hbb hsa hwb hg
  go_enter Try.func4, Try.ntmps4
  go_upto_region 1 with fail
  rw [← hwa]
  clear hwa
  go_upto_region 5 with fail
  rw [← HWB.out.1, ← HWB.out.2]
  clear HWB x6 xl
  go_wp2_with fail
  clear a0 a1 a2 a3 a4 a5 a6 a7 al d1
  (with_reducible refine (HT.out _).mono ?_)
  rintro e w1 ⟨rfl, hb⟩
  have HZ1 := Lib.hid (HZ.out.below' hb)
  have HB1 := Lib.hid (HB.out.trans (hb.mono HB.out.size))
  clear hb HS HZ HB HT
  go_wp2_with fail
  (with_reducible refine (HA.out _).mono ?_)
  rintro e w2 ⟨rfl, hb⟩
  have hz := HZ1.out.below' hb
  have HB2 := Lib.hid (HB1.out.trans (hb.mono HB1.out.size))
  have c4 : w2.cell? ⟨g, 4, none⟩ = some (.pointer none) := hz.cell 4
  clear hb HZ1 HB1 hz
  go_wp2_with fail
  refine (nsend_nil _ _).mono ?_
  rintro e w' ⟨rfl, rfl⟩
  go_wp2_with fail
  refine (nsend_zero _ _ c4).mono ?_
  rintro e w' ⟨rfl, rfl⟩
  go_wp2_with fail
  refine (ntick_nil _).mono ?_
  rintro e w' ⟨rfl, rfl⟩
  go_wp2_with fail
  refine (nout_nil _).mono ?_
  rintro e w' ⟨rfl, rfl⟩
  go_wp2_with fail
  refine (nwaiting_nil _).mono ?_
  rintro e w' ⟨rfl, rfl⟩
  go_wp2_with fail
  refine (npeer_nil _).mono ?_
  rintro e w' ⟨rfl, rfl⟩
  go_wp2_with fail
  refine (nlife_nil _).mono ?_
  rintro e w' ⟨rfl, rfl⟩
  go_wp2_with fail
  refine (nout_zero _ c4).mono ?_
  rintro e w' ⟨rfl, rfl⟩
  go_wp2_with fail
  refine (nwaiting_zero _ c4).mono ?_
  rintro e w' ⟨rfl, rfl⟩
  go_wp2
  go_ret
  exact ⟨rfl, HB2.out⟩
theorem sessNone_walk (v : Value) (f : Frm) (w : World) (hi : FrmIn f ∧ f.d.length ≤ 9223372036854775807 ∧ v = aggF f) :
    Calls Try.prog 4 #[v] w fun e w' => e = .returned (.bool true) ∧ Below w.heap.size w w' := by
  obtain ⟨-, -, rfl⟩ := hi
  by_cases h : 300 < f.d.length
  · exact sessNone_long f w h
  · exact sessNone_short f w h

set_option maxRecDepth 100000 in
theorem sessNone_lifted (os : Os) (started : os.Started) (H : Type) (enc : TypeId × Value → H) :
    ReturnsInHanded {} Try.checked os 4 .any (Rows.sessNoneSpec.pre6 enc Try.prog Try.f4 Rows.sessNoneRow.domain false) (Rows.sessNoneSpec.post enc Try.prog Try.f4 false true false false) := by
  refine returnsInHanded_of_change (C := Try.checked) own started (by kernel_rfl) Try.func4
    (ChangeSpec.witness6 (enc := enc) (C := Try.checked) false ⟨#[], #[.agg #[.int .i64 0, .int .i64 0, .int .i64 0, .int .i64 0, .int .i64 0, .int .i64 0, .string ByteArray.empty, .bool false]], []⟩ 8 (by kernel_rfl) (by kernel_rfl) (by kernel_rfl) (by kernel_rfl)) ?_
  intro W base args ds gs before hval0 hW _ _
  have hval : ∀ (j : Nat) t v, Try.f4.params[j]? = some t → args[j]? = some v → Value.okWide Try.prog W .any base t v := hval0
  have hW' := hW
  obtain ⟨p, q, hA0, hV, rfl, hfz, hnd⟩ := hW
  have hA : DataW.TrodAll enc Try.prog W 0 (fun _ => true) true Try.f4.params.toList args.toList ds p := hA0
  rw [Try.params4] at hA hval
  obtain ⟨v0, vs0, d0, ds0, p0, q0, hargs, rfl, rfl, h0, r0⟩ := trodAll_cons hA
  obtain ⟨rfl, rfl, rfl⟩ := trodAll_nil r0
  obtain rfl : args = #[v0] := by cases args; simp_all
  obtain ⟨rfl, rfl⟩ := trodVars_none hV
  have k0 := h0
  have lt0 : ∀ x ∈ p0, x.block < W.heap.size := by obtain ⟨m, hm⟩ := k0; exact DataW.trod_lt m _ _ _ hm
  obtain ⟨a0, w0⟩ := frame_open (hval 0 23 v0 rfl rfl) k0
  clear hA0 hval0
  refine (sessNone_walk v0 a0 W w0).mono fun e W' ⟨he, bel⟩ => ?_
  subst he
  exact ⟨_, rfl, _, _, _, [], _, [], hW', trodAll_mk1 (shut_bool Try.underlying4 _), (trodAll_cons_mk (Below.trod laidOut (by kernel_rfl) (of_decide_eq_true (by kernel_rfl)) k0 bel lt0) trodAll_mk0), rfl, bel.frame _, fun h => by cases h⟩

theorem sessNone_said : Rows.SessNoneSaid :=
  OpenClaim.holds_of_wide 4 Try.f4 rfl rfl rfl rfl rfl rfl rfl ⟨rfl, rfl, rfl, rfl, rfl⟩ rfl rfl rfl rfl rfl (by kernel_rfl) Try.func4 (by unfold joinedFacts; simp only [Bool.and_eq_true]; and_intros <;> as_aux_lemma => kernel_rfl)
    (of_decide_eq_true (by kernel_rfl)) (by unfold Func.isWrapper; first | (rw [if_pos (by decide +kernel)]; kernel_rfl) | (rw [if_neg (by decide +kernel)]; exact ⟨rfl, rfl⟩))
    (fun os started H enc _ => sessNone_lifted os started H enc)
#print axioms sessNone_said
end Go.Proofs.Ytieodancccefiaa
