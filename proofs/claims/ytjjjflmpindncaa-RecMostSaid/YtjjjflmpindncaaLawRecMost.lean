/- The statement RecMost of package rec: a record of the most images has at most half of a log's places, and one more image would not fit; it holds of every int. -/
import Derived.Test.YtjjjflmpindncaaRecL
import Derived.ChangeOld
namespace Go.Proofs.Ytjjjflmpindncaa
open Go Go.RowKit Go.ChangeShapes Go.WideShapes Go.ChangeAt
set_option maxRecDepth 100000
set_option maxHeartbeats 2000000
set_option linter.unusedSimpArgs false

theorem recMost_out (a : Int) (h : a < 8 ∨ 256 < a) (w : World) : Calls Try.prog 4 #[.int .i64 a] w fun e w' => e = .returned (.bool true) ∧ Below w.heap.size w w' := by
  have HA := Lib.hid alive11_any
  by_cases h1 : a < 8
  · have d1 : decide (a < 8) = true := decide_eq_true h1
    clear h
    go_enter Try.func4, Try.ntmps4
    go_wp2_with fail
    refine (HA.out _).mono ?_
    rintro e w1 ⟨rfl, hb⟩
    go_wp2
    go_ret
    exact ⟨rfl, hb⟩
  · have d1 : decide (a < 8) = false := decide_eq_false h1
    have d2 : decide (256 < a) = true := decide_eq_true (by omega)
    clear h
    go_enter Try.func4, Try.ntmps4
    go_wp2_with fail
    refine (HA.out _).mono ?_
    rintro e w1 ⟨rfl, hb⟩
    go_wp2
    go_ret
    exact ⟨rfl, hb⟩
theorem recMost_walk (a : Int) (_wa : (Lit.int .i64 a).wf = true) (w : World) :
    Calls Try.prog 4 #[.int .i64 a] w fun e w' => e = .returned (.bool true) ∧ Below w.heap.size w w' := by
  by_cases h : a < 8 ∨ 256 < a
  · exact recMost_out a h w
  have HA := Lib.hid alive11_any
  have d1 : decide (a < 8) = false := decide_eq_false (by omega)
  have d2 : decide (256 < a) = false := decide_eq_false (by omega)
  obtain ⟨c, hc⟩ : ∃ c, c = mostN a := ⟨_, rfl⟩
  have hc2 : c = min ((a.toNat - 1) / 2 * 42 / 108) 60 := by
    rw [hc, mostN, if_neg (by omega)]
  have HM : Hid (∀ W : World, Calls Try.prog 13 #[.int .i64 a] W fun e w' => e = .returned (.int .i64 (c : Int)) ∧ W = w') := Lib.hid fun W => by rw [hc]; exact rmost_any a W
  have hc1 : 1 ≤ c := by omega
  have hc60 : c ≤ 60 := by omega
  obtain ⟨s, hs⟩ : ∃ s, s = secN c := ⟨_, rfl⟩
  obtain ⟨t, ht⟩ : ∃ t, t = secN (c + 1) := ⟨_, rfl⟩
  have hs2 : s = (c * 108 + 41) / 42 := by rw [hs, secN_of (by omega) hc60]
  have ht2 : c ≠ 60 → t = ((c + 1) * 108 + 41) / 42 := fun h => by rw [ht, secN_of (by omega) (by omega)]
  have HS : Hid (∀ W : World, Calls Try.prog 11 #[.int .i64 (c : Int)] W fun e w' => e = .returned (.int .i64 (s : Int)) ∧ W = w') := Lib.hid fun W => by
    have := rsectors_any (c : Int) W
    rwa [Int.toNat_natCast, ← hs] at this
  have HT : Hid (∀ W : World, Calls Try.prog 11 #[.int .i64 ((c : Int) + 1)] W fun e w' => e = .returned (.int .i64 (t : Int)) ∧ W = w') := Lib.hid fun W => by
    have := rsectors_any ((c + 1 : Nat) : Int) W
    rw [Int.toNat_natCast, ← ht] at this
    exact this
  have e1 : IntKind.i64.wrap (2 * (s : Int)) = 2 * (s : Int) := by rw [IntKind.wrap_i64]; omega
  have e2 : IntKind.i64.wrap (a - 1) = a - 1 := by rw [IntKind.wrap_i64]; omega
  have e3 : IntKind.i64.wrap ((c : Int) + 1) = (c : Int) + 1 := by rw [IntKind.wrap_i64]; omega
  have d3 : decide (1 ≤ (c : Int)) = true := decide_eq_true (by omega)
  have d4 : decide ((c : Int) ≤ 60) = true := decide_eq_true (by omega)
  have d5 : decide (2 * (s : Int) ≤ a - 1) = true := decide_eq_true (by omega)
  have d6 : decide (1 ≤ c) = true := decide_eq_true hc1
  have d7 : decide (c ≤ 60) = true := decide_eq_true hc60
  by_cases h60 : c = 60
  · have d8 : ((c : Int) == 60) = true := by rw [beq_iff_eq]; omega
    clear hc hc2 hs hs2 ht ht2 h60 h
    go_enter Try.func4, Try.ntmps4
    go_wp2_with fail
    refine (HM.out _).mono ?_
    rintro e w1 ⟨rfl, rfl⟩
    go_wp2_with fail
    refine (HA.out _).mono ?_
    rintro e w1 ⟨rfl, hb⟩
    go_wp2_with fail
    refine (HS.out _).mono ?_
    rintro e w2 ⟨rfl, rfl⟩
    go_wp2
    go_ret
    exact ⟨rfl, hb⟩
  · have d8 : ((c : Int) == 60) = false := by rw [beq_eq_false_iff_ne]; omega
    have ht3 := ht2 h60
    have e4 : IntKind.i64.wrap (2 * (t : Int)) = 2 * (t : Int) := by rw [IntKind.wrap_i64]; omega
    have d9 : decide (a - 1 < 2 * (t : Int)) = true := decide_eq_true (by omega)
    clear hc hc2 hs hs2 ht ht2 h60 h ht3
    go_enter Try.func4, Try.ntmps4
    go_wp2_with fail
    refine (HM.out _).mono ?_
    rintro e w1 ⟨rfl, rfl⟩
    go_wp2_with fail
    refine (HA.out _).mono ?_
    rintro e w1 ⟨rfl, hb⟩
    go_wp2_with fail
    refine (HS.out _).mono ?_
    rintro e w2 ⟨rfl, rfl⟩
    go_wp2_with fail
    refine (HT.out _).mono ?_
    rintro e w2 ⟨rfl, rfl⟩
    go_wp2
    go_ret
    exact ⟨rfl, hb⟩

set_option maxRecDepth 100000 in
theorem recMost_lifted (os : Os) (started : os.Started) (H : Type) (enc : TypeId × Value → H) :
    ReturnsInHanded {} Try.checked os 4 .any (Rows.recMostSpec.pre6 enc Try.prog Try.f4 Rows.recMostRow.domain false) (Rows.recMostSpec.post enc Try.prog Try.f4 false true false false) := by
  refine returnsInHanded_of_change (C := Try.checked) own started (by kernel_rfl) Try.func4
    (ChangeSpec.witness6 (enc := enc) (C := Try.checked) false ⟨#[], #[.int .i64 0], []⟩ 8 (by kernel_rfl) (by kernel_rfl) (by kernel_rfl) (by kernel_rfl)) ?_
  intro W base args ds gs before hval0 hW _ _
  have hval : ∀ (j : Nat) t v, Try.f4.params[j]? = some t → args[j]? = some v → Value.okWide Try.prog W .any base t v := hval0
  have hW' := hW
  obtain ⟨p, q, hA0, hV, rfl, hfz, hnd⟩ := hW
  have hA : DataW.TrodAll enc Try.prog W 0 (fun _ => true) true Try.f4.params.toList args.toList ds p := hA0
  rw [Try.params4] at hA hval
  obtain ⟨v0, vs0, d0, ds0, p0, q0, hargs, rfl, rfl, h0, r0⟩ := trodAll_cons hA
  obtain ⟨rfl, rfl, rfl⟩ := trodAll_nil r0
  obtain rfl : args = #[v0] := by cases args; simp_all
  obtain ⟨rfl, rfl⟩ := trodVars_none hV
  have k0 := h0
  have lt0 : ∀ x ∈ p0, x.block < W.heap.size := by obtain ⟨m, hm⟩ := k0; exact DataW.trod_lt m _ _ _ hm
  obtain ⟨a0, rfl, rfl, rfl, w0⟩ := open_int Try.underlying3 (hval 0 3 v0 rfl rfl) h0
  clear hA0 hval0
  refine (recMost_walk a0 w0 W).mono fun e W' ⟨he, bel⟩ => ?_
  subst he
  exact ⟨_, rfl, _, _, _, [], _, [], hW', trodAll_mk1 (shut_bool Try.underlying4 _), (trodAll_cons_mk (Below.trod laidOut (by kernel_rfl) (of_decide_eq_true (by kernel_rfl)) k0 bel lt0) trodAll_mk0), rfl, bel.frame _, fun h => by cases h⟩

theorem recMost_said : Rows.RecMostSaid :=
  OpenClaim.holds_of_wide 4 Try.f4 rfl rfl rfl rfl rfl rfl rfl ⟨rfl, rfl, rfl, rfl, rfl⟩ rfl rfl rfl rfl rfl (by kernel_rfl) Try.func4 (by kernel_rfl)
    (of_decide_eq_true (by kernel_rfl)) (by unfold Func.isWrapper; first | (rw [if_pos (by decide +kernel)]; kernel_rfl) | (rw [if_neg (by decide +kernel)]; exact ⟨rfl, rfl⟩))
    (fun os started H enc _ => recMost_lifted os started H enc)
#print axioms recMost_said
end Go.Proofs.Ytjjjflmpindncaa
