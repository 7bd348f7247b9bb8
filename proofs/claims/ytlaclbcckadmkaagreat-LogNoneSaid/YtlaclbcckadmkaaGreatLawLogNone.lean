/- The statement LogNone of package wlog: what a nil and a zero log answer, and an opening without a disk; it holds of every uint64 and every int. -/
import Derived.Test.YtlaclbcckadmkaaGreatWlS
import Derived.ChangeOld
namespace Go.Proofs.YtlaclbcckadmkaaGreat
open Go Go.RowKit DskP WlP SupP RdkP Go.ChangeShapes Go.WideShapes Go.ChangeAt
set_option maxRecDepth 100000
set_option maxHeartbeats 2000000
set_option linter.unusedSimpArgs false

def zeroLgc : Array Value := #[.pointer none, .int .i64 0, .int .u64 0, .int .i64 0, .int .i64 0, .bool false, .int .u64 0, .int .u64 0, .int .u64 0, .int .u64 0, .pointer none, .pointer none, .int .i64 0, .int .i64 0]
theorem zero_calls (p : Nat) (w : World) (h : Sits w p 28 zeroLgc) : NoLog (.pointer (some ⟨p, 0, none⟩)) w ∧
    (Calls Tryz.prog 16 #[.pointer (some ⟨p, 0, none⟩)] w fun e w' => e = .returned (.int .u64 0) ∧ w = w') ∧ (Calls Tryz.prog 17 #[.pointer (some ⟨p, 0, none⟩)] w fun e w' => e = .returned (.int .u64 0) ∧ w = w') ∧
    (Calls Tryz.prog 19 #[.pointer (some ⟨p, 0, none⟩)] w fun e w' => e = .returned (.int .i64 0) ∧ w = w') ∧ (Calls Tryz.prog 20 #[.pointer (some ⟨p, 0, none⟩)] w fun e w' => e = .returned (.int .i64 0) ∧ w = w') := by
  have c0 : w.cell? ⟨p, 0, none⟩ = some (.pointer none) := h.cell 0
  have c8 : w.cell? ⟨p, 8, none⟩ = some (.int .u64 0) := h.cell 8
  have c9 : w.cell? ⟨p, 9, none⟩ = some (.int .u64 0) := h.cell 9
  have c11 : w.cell? ⟨p, 11, none⟩ = some (.pointer none) := h.cell 11
  have c12 : w.cell? ⟨p, 12, none⟩ = some (.int .i64 0) := h.cell 12
  refine ⟨.inr ⟨p, rfl, h.lt, c0⟩, ?_, ?_, ?_, ?_⟩
  all_goals clear h
  · go_enter Tryz.func16, Tryz.ntmps16
    go_wp2
    go_ret
    exact ⟨rfl, rfl⟩
  · go_enter Tryz.func17, Tryz.ntmps17
    go_wp2
    go_ret
    exact ⟨rfl, rfl⟩
  · go_enter Tryz.func19, Tryz.ntmps19
    go_wp2
    go_ret
    exact ⟨rfl, rfl⟩
  · go_enter Tryz.func20, Tryz.ntmps20
    go_wp2_with fail
    refine (lenS_nil w).mono ?_
    rintro e w' ⟨rfl, rfl⟩
    go_wp2
    go_ret
    exact ⟨rfl, rfl⟩
theorem logNone_walk (u : Int) (_wu : (Lit.int .u64 u).wf = true) (n : Int) (_wn : (Lit.int .i64 n).wf = true) (w : World) :
    Calls Tryz.prog 3 #[.int .u64 u, .int .i64 n] w fun e w' => e = .returned (.bool true) ∧ Below w.heap.size w w' := by
  have HAL := Lib.hid alive12_any
  have HRE := Lib.hid ready_any
  have HON := Lib.hid rone_n
  have HOP : Hid (∀ W, Calls Tryz.prog 7 #[.pointer none, aggH alSh, .int .i64 1, .int .u64 9] W fun e w' => e = .returned (.tuple #[.pointer none, .int .i64 1]) ∧ Below W.heap.size W w') := Lib.hid fun W => lgopen_nil _ 1 9 W ⟨alSh, rfl⟩
  unfold aggH alSh at HRE HOP
  simp only at HRE HOP
  obtain ⟨W0, hW0⟩ : ∃ W, W = w.alloc (.cells zeroLgc 28) := ⟨_, rfl⟩
  have hb0 : Below w.heap.size w W0 := hW0 ▸ (Below.refl _ w).alloc (Nat.le_refl _) _
  have hs0 : Sits W0 w.heap.size 28 zeroLgc := hW0 ▸ Sits.fresh w _ _
  have HB0 := Lib.hid hb0
  have HS0 := Lib.hid hs0
  unfold zeroLgc at hW0
  clear hb0 hs0
  go_enter Tryz.func3, Tryz.ntmps3
  go_wp2_with fail
  rw [← hW0]
  clear hW0
  refine (HRE.out W0).mono ?_
  rintro e w1 ⟨d, r, rfl, hA⟩
  obtain ⟨W1, hW1⟩ : ∃ W, W = w1.alloc (.cells #[.int .i64 2, .int .i64 10, .int .i64 8, .int .i64 4, .int .i64 32] 33) := ⟨_, rfl⟩
  have HB1 : Hid (Below W0.heap.size W0 W1) := Lib.hid (hW1 ▸ hA.below.alloc hA.below.size _)
  clear hA
  go_wp2_with fail
  rw [← hW1]
  clear hW1
  refine (HOP.out W1).mono ?_
  rintro e w2 ⟨rfl, hb⟩
  have HB2 := Lib.hid (HB1.out.trans (hb.mono HB1.out.size))
  clear hb HB1
  go_wp2_with fail
  refine (HON.out 1 1 (by omega) (by decide) w2).mono ?_
  rintro e w3 ⟨rfl, hb⟩
  have HB3 := Lib.hid (HB2.out.trans (hb.mono HB2.out.size))
  clear hb HB2
  go_wp2_with fail
  refine (no_add (.inl rfl) _ 1 1).mono ?_
  rintro e w4 ⟨rfl, rfl⟩
  obtain ⟨W4, hW4⟩ : ∃ W, W = w3.alloc (.cells #[.int .i64 1, .int .u64 1, .string (str (oneIm 1 1).d)] 42) := ⟨_, rfl⟩
  have HB4 : Hid (Below W0.heap.size W0 W4) := Lib.hid (hW4 ▸ HB3.out.alloc HB3.out.size _)
  go_wp2_with fail
  rw [← hW4]
  clear hW4
  refine (HON.out 1 1 (by omega) (by decide) W4).mono ?_
  rintro e w5 ⟨rfl, hb⟩
  obtain ⟨W5, hW5⟩ : ∃ W, W = w5.alloc (.cells #[.int .i64 1, .int .u64 1, .string (str (oneIm 1 1).d)] 42) := ⟨_, rfl⟩
  have hb5 : Below W0.heap.size W0 W5 := hW5 ▸ (HB4.out.trans (hb.mono HB4.out.size)).alloc (HB4.out.trans (hb.mono HB4.out.size)).size _
  have HB5 := Lib.hid hb5
  have HZ := Lib.hid fun W (hW : Below W5.heap.size W5 W) => zero_calls w.heap.size W (HS0.out.below' (hb5.trans (hW.mono hb5.size)))
  clear hb hb5
  go_wp2_with fail
  rw [← hW5]
  clear hW5
  refine (no_add (HZ.out W5 (Below.refl _ _)).1 _ 1 1).mono ?_
  rintro e w6 ⟨rfl, rfl⟩
  go_wp2_with fail
  refine (no_write (.inl rfl)).mono ?_
  rintro e w6 ⟨rfl, rfl⟩
  go_wp2_with fail
  refine (no_write (HZ.out W5 (Below.refl _ _)).1).mono ?_
  rintro e w6 ⟨rfl, rfl⟩
  go_wp2_with fail
  refine (HAL.out W5).mono ?_
  rintro e w6 ⟨rfl, hb⟩
  have HB6 := Lib.hid hb
  clear hb
  go_wp2_with fail
  refine (no_sync (.inl rfl)).mono ?_
  rintro e w7 ⟨rfl, rfl⟩
  go_wp2_with fail
  refine (no_sync (HZ.out w6 HB6.out).1).mono ?_
  rintro e w7 ⟨rfl, rfl⟩
  go_wp2_with fail
  refine (no_free (.inl rfl) u).mono ?_
  rintro e w7 ⟨rfl, rfl⟩
  go_wp2_with fail
  refine (no_free (HZ.out w6 HB6.out).1 u).mono ?_
  rintro e w7 ⟨rfl, rfl⟩
  go_wp2_with fail
  refine (no_fits (.inl rfl) n).mono ?_
  rintro e w7 ⟨rfl, hb⟩
  have HB7 := Lib.hid (HB6.out.trans (hb.mono HB6.out.size))
  clear hb
  go_wp2_with fail
  refine (no_fits (HZ.out w7 HB7.out).1 n).mono ?_
  rintro e w8 ⟨rfl, hb⟩
  have HB8 := Lib.hid (HB7.out.trans (hb.mono HB7.out.size))
  clear hb
  have HNI := Lib.hid (lgnil_any w8)
  have HZ8 := Lib.hid (HZ.out w8 HB8.out)
  go_wp2_with fail
  refine HNI.out.1.mono ?_
  rintro e w9 ⟨rfl, rfl⟩
  go_wp2_with fail
  refine HNI.out.2.1.mono ?_
  rintro e w9 ⟨rfl, rfl⟩
  go_wp2_with fail
  refine HNI.out.2.2.1.mono ?_
  rintro e w9 ⟨rfl, rfl⟩
  go_wp2_with fail
  refine HNI.out.2.2.2.1.mono ?_
  rintro e w9 ⟨rfl, rfl⟩
  go_wp2_with fail
  refine HZ8.out.2.1.mono ?_
  rintro e w9 ⟨rfl, rfl⟩
  go_wp2_with fail
  refine HZ8.out.2.2.1.mono ?_
  rintro e w9 ⟨rfl, rfl⟩
  go_wp2_with fail
  refine HNI.out.2.2.2.2.1.mono ?_
  rintro e w9 ⟨rfl, rfl⟩
  go_wp2_with fail
  refine HNI.out.2.2.2.2.2.1.mono ?_
  rintro e w9 ⟨rfl, rfl⟩
  go_wp2_with fail
  refine HZ8.out.2.2.2.1.mono ?_
  rintro e w9 ⟨rfl, rfl⟩
  go_wp2_with fail
  refine HZ8.out.2.2.2.2.mono ?_
  rintro e w9 ⟨rfl, rfl⟩
  go_wp2_with fail
  refine HNI.out.2.2.2.2.2.2.mono ?_
  rintro e w9 ⟨rfl, rfl⟩
  go_wp2
  go_ret
  exact ⟨rfl, HB0.out.trans (HB5.out.trans (HB8.out.mono HB5.out.size) |>.mono HB0.out.size)⟩
set_option maxRecDepth 100000 in
theorem logNone_lifted (os : Os) (started : os.Started) (H : Type) (enc : TypeId × Value → H) :
    ReturnsInHanded {} Tryz.checked os 3 .any (Rows.logNoneSpec.pre6 enc Tryz.prog Tryz.f3 Rows.logNoneRow.domain false) (Rows.logNoneSpec.post enc Tryz.prog Tryz.f3 false true false false) := by
  refine returnsInHanded_of_change (C := Tryz.checked) own started (by kernel_rfl) Tryz.func3
    (ChangeSpec.witness6 (enc := enc) (C := Tryz.checked) false ⟨#[], #[.int .u64 0, .int .i64 0], []⟩ 8 (by kernel_rfl) (by kernel_rfl) (by kernel_rfl) (by kernel_rfl)) ?_
  intro W base args ds gs before hval0 hW _ _
  have hval : ∀ (j : Nat) t v, Tryz.f3.params[j]? = some t → args[j]? = some v → Value.okWide Tryz.prog W .any base t v := hval0
  have hW' := hW
  obtain ⟨p, q, hA0, hV, rfl, hfz, hnd⟩ := hW
  have hA : DataW.TrodAll enc Tryz.prog W 0 (fun _ => true) true Tryz.f3.params.toList args.toList ds p := hA0
  rw [Tryz.params3] at hA hval
  obtain ⟨v0, vs0, d0, ds0, p0, q0, hargs, rfl, rfl, h0, r0⟩ := trodAll_cons hA
  obtain ⟨v1, vs1, d1, ds1, p1, q1, rfl, rfl, rfl, h1, r1⟩ := trodAll_cons r0
  obtain ⟨rfl, rfl, rfl⟩ := trodAll_nil r1
  obtain rfl : args = #[v0, v1] := by cases args; simp_all
  obtain ⟨rfl, rfl⟩ := trodVars_none hV
  have k0 := h0
  have lt0 : ∀ x ∈ p0, x.block < W.heap.size := by obtain ⟨m, hm⟩ := k0; exact DataW.trod_lt m _ _ _ hm
  have k1 := h1
  have lt1 : ∀ x ∈ p1, x.block < W.heap.size := by obtain ⟨m, hm⟩ := k1; exact DataW.trod_lt m _ _ _ hm
  obtain ⟨a0, rfl, rfl, rfl, w0⟩ := open_int Tryz.underlying22 (hval 0 22 v0 rfl rfl) h0
  obtain ⟨a1, rfl, rfl, rfl, w1⟩ := open_int Tryz.underlying3 (hval 1 3 v1 rfl rfl) h1
  clear hA0 hval0
  refine (logNone_walk a0 w0 a1 w1 W).mono fun e W' ⟨he, bel⟩ => ?_
  subst he
  exact ⟨_, rfl, _, _, _, [], _, [], hW', trodAll_mk1 (shut_bool Tryz.underlying4 _), (trodAll_cons_mk (Below.trod laidOut (by kernel_rfl) (of_decide_eq_true (by kernel_rfl)) k0 bel lt0) (trodAll_cons_mk (Below.trod laidOut (by kernel_rfl) (of_decide_eq_true (by kernel_rfl)) k1 bel lt1) trodAll_mk0)), rfl, bel.frame _, fun h => by cases h⟩

theorem logNone_said : Rows.LogNoneSaid :=
  OpenClaim.holds_of_wide 3 Tryz.f3 rfl rfl rfl rfl rfl rfl rfl ⟨rfl, rfl, rfl, rfl, rfl⟩ rfl rfl rfl rfl rfl (by kernel_rfl) Tryz.func3 (by kernel_rfl)
    (of_decide_eq_true (by kernel_rfl)) (by unfold Func.isWrapper; first | (rw [if_pos (by decide +kernel)]; kernel_rfl) | (rw [if_neg (by decide +kernel)]; exact ⟨rfl, rfl⟩))
    (fun os started H enc _ => logNone_lifted os started H enc)
#print axioms logNone_said
end Go.Proofs.YtlaclbcckadmkaaGreat
