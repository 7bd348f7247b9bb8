/- The statement LruPins of package lru: pins add up, and a key goes only when each of its pins is gone; it holds of every int. -/
import Derived.Test.YtegmefchfphphaaLAlive
import Derived.Test.YtegmefchfphphaaBase
import Derived.OpenShut
import Derived.ChangeOld
namespace Go.Proofs.Ytegmefchfphphaa
open Go Go.RowKit Go.ChangeShapes Go.WideShapes Go.ChangeAt LruP
set_option maxRecDepth 100000
set_option maxHeartbeats 2000000
set_option linter.unusedSimpArgs false

theorem lruPins_walk (a : Int) (_wa : (Lit.int .i64 a).wf = true) (w : World) :
    Calls Try.prog 6 #[.int .i64 a] w fun e w' => e = .returned (.bool true) ∧ Below w.heap.size w w' := by
  clear _wa
  cases h1 : decide (a < 1)
  case true =>
    go_enter Try.func6, Try.ntmps6
    go_wp2_with fail
    refine (alive5_any w).mono ?_
    rintro e w4 ⟨rfl, hb⟩
    go_wp2
    go_ret
    exact ⟨rfl, hb⟩
  case false =>
  cases h2 : decide (a > 30)
  case true =>
    have h2' : decide (30 < a) = true := h2
    go_enter Try.func6, Try.ntmps6
    go_wp2_with fail
    refine (alive5_any w).mono ?_
    rintro e w4 ⟨rfl, hb⟩
    go_wp2
    go_ret
    exact ⟨rfl, hb⟩
  case false =>
  have h2' : decide (30 < a) = false := h2
  obtain ⟨n, rfl⟩ : ∃ n : Nat, a = n := Int.eq_ofNat_of_zero_le (by simp at h1; omega)
  have HN : Hid (1 ≤ n ∧ n ≤ 30) := Lib.hid ⟨by simp at h1; omega, by simp at h2; omega⟩
  have wf : ∀ k : Int, 0 ≤ k → k ≤ 100 → wfkII k := fun k h1 h2 => by unfold wfkII; omega
  have WF := Lib.hid wf
  clear wf
  go_enter Try.func6, Try.ntmps6
  go_wp2_with fail
  refine (lnewII_any 1 w).mono ?_
  rintro e w1 ⟨cb, rfl, hH, hB⟩
  rw [show min (max (1 : Int) 0) 100000 = 1 by decide] at hH
  have H1 := Lib.hid hH
  have B1 := Lib.hid hB
  clear hH hB
  go_wp2_with fail
  refine (lputII_room cb w.heap.size 0 1 [] 1 5 w1 H1.out (by simp) (WF.out 1 (by decide) (by decide)) (by decide) (by decide) B1.out.size).mono ?_
  rintro e w2 ⟨rfl, hH, hO⟩
  have H2 := Lib.hid hH
  have B2 := Lib.hid (B1.out.trans hO.2)
  clear hH hO h1 h2 h2'
  go_wp2_with fail
  go_loopw [4] (fun i wr => ∃ j : Nat, j ≤ n ∧ i = .int .i64 j ∧ LruAtII wr cb w.heap.size 1 1 [⟨1, 5, j⟩] ∧ Below w.heap.size w wr) (fun i _ => n - (intOf i).toNat)
  case atStart => exact ⟨0, by omega, rfl, H2.out, B2.out⟩
  case round =>
    obtain ⟨j, hj, rfl, hH, hB⟩ := hrel
    have HH := Lib.hid hH
    have HB := Lib.hid hB
    clear hH hB
    have hn := HN.out
    rcases Nat.lt_or_ge j n with hlt | hge
    · have d1 : decide ((j : Int) < (n : Int)) = true := by simp; omega
      have x0 : IntKind.i64.wrap ((j : Int) + 1) = (j : Int) + 1 := IntWalk.i64_in _ (by omega)
      have HJ := Lib.hid hlt
      clear hlt hj hn
      go_wp2_with fail
      refine (lpinII_in cb w.heap.size 1 1 [] [] ⟨1, 5, j⟩ wr HH.out (by have := HN.out; have := HJ.out; simp only; omega) HB.out.size).mono ?_
      rintro e w3 ⟨rfl, hH3, hO3⟩
      have H3 := Lib.hid hH3
      have B3 := Lib.hid (HB.out.trans hO3.2)
      clear hH3 hO3
      go_wp2_with fail
      refine (lpinnedII_in cb w.heap.size 1 1 [] [] ⟨1, 5, (j : Int) + 1⟩ w3 H3.out).mono ?_
      rintro e w4 ⟨rfl, hB4⟩
      have H4 := Lib.hid (H3.out.below hB4)
      have B4 := Lib.hid (B3.out.trans (hB4.mono B3.out.size))
      clear hB4
      go_wp2_with fail
      go_roundw
      case rel => exact ⟨j + 1, by have := HJ.out; omega, by go_num, by rw [Int.natCast_succ]; exact H4.out, B4.out⟩
      case measure => simp [intOf]; have := HJ.out; omega
    · obtain rfl : j = n := by omega
      have d1 : decide ((j : Int) < (j : Int)) = false := by simp
      clear hge hj hn
      go_wp2_with fail
      go_loopw [5] (fun i wr => ∃ k : Nat, k ≤ j ∧ i = .int .i64 k ∧ LruAtII wr cb w.heap.size 1 1 [⟨1, 5, (j : Int) - k⟩] ∧ Below w.heap.size w wr) (fun i _ => j - (intOf i).toNat)
      case atStart => exact ⟨0, by omega, rfl, by simpa using HH.out, HB.out⟩
      case round =>
        obtain ⟨k, hk, rfl, hH, hB⟩ := hrel
        have H5 := Lib.hid hH
        have B5 := Lib.hid hB
        clear hH hB HH HB
        have hn := HN.out
        rcases Nat.lt_or_ge k j with hlt | hge
        · have d2 : decide ((k : Int) < (j : Int)) = true := by simp; omega
          have x0 : IntKind.i64.wrap ((k : Int) + 1) = (k : Int) + 1 := IntWalk.i64_in _ (by omega)
          have HK := Lib.hid hlt
          clear hlt hk hn d1
          go_wp2_with fail
          refine (lputII_held cb w.heap.size 1 1 [⟨1, 5, (j : Int) - k⟩] 2 6 _ H5.out (by simp) (WF.out 2 (by decide) (by decide)) (by simp) (by have := HK.out; simp; omega) B5.out.size).mono ?_
          rintro e w6 ⟨rfl, hH6, hO6⟩
          have H6 := Lib.hid hH6
          have B6 := Lib.hid (B5.out.trans hO6.2)
          clear hH6 hO6
          go_wp2_with fail
          refine (lunpinII_in cb w.heap.size 1 1 [] [] ⟨1, 5, (j : Int) - k⟩ w6 H6.out (by have := HK.out; have := HN.out; simp only; omega) B6.out.size).mono ?_
          rintro e w7 ⟨rfl, hH7, hO7⟩
          have H7 := Lib.hid hH7
          have B7 := Lib.hid (B6.out.trans hO7.2)
          clear hH7 hO7
          go_wp2_with fail
          go_roundw
          case rel => exact ⟨k + 1, by have := HK.out; omega, by go_num, by rw [Int.natCast_succ, ← Int.sub_sub]; exact H7.out, B7.out⟩
          case measure => simp [intOf]; have := HK.out; omega
        · obtain rfl : k = j := by omega
          clear hge hk hn
          have H8 := Lib.hid (show LruAtII _ cb w.heap.size 1 1 [⟨1, 5, 0⟩] by have := H5.out; rw [Int.sub_self] at this; exact this)
          clear H5
          go_wp2_with fail
          refine (lputII_goes cb w.heap.size 1 1 [] [] ⟨1, 5, 0⟩ 2 6 _ H8.out (by simp) (WF.out 2 (by decide) (by decide)) (by simp) rfl (by simp) (by decide) B5.out.size).mono ?_
          rintro e w9 ⟨rfl, hH9, hO9⟩
          have H9 := Lib.hid hH9
          have B9 := Lib.hid (B5.out.trans hO9.2)
          clear hH9 hO9
          go_wp2_with fail
          refine (alive5_any w9).mono ?_
          rintro e w10 ⟨rfl, hb⟩
          have H10 := Lib.hid (H9.out.below hb)
          have B10 := Lib.hid (B9.out.trans (hb.mono B9.out.size))
          clear hb
          go_wp2_with fail
          refine (lunpinII_free cb w.heap.size 2 1 [] [] ⟨2, 6, 0⟩ w10 H10.out rfl).mono ?_
          rintro e w11 ⟨rfl, hb⟩
          have H11 := Lib.hid (H10.out.below hb)
          have B11 := Lib.hid (B10.out.trans (hb.mono B10.out.size))
          clear hb
          go_wp2_with fail
          refine (lpinII_out cb w.heap.size 2 1 _ 1 w11 H11.out (by simp) (WF.out 1 (by decide) (by decide))).mono ?_
          rintro e w12 ⟨rfl, hb⟩
          have B12 := Lib.hid (B11.out.trans (hb.mono B11.out.size))
          clear hb
          go_wp2
          go_ret
          exact ⟨rfl, B12.out⟩

set_option maxRecDepth 100000 in
theorem lruPins_lifted (os : Os) (started : os.Started) (H : Type) (enc : TypeId × Value → H) :
    ReturnsInHanded {} Try.checked os 6 .any (Rows.lruPinsSpec.pre6 enc Try.prog Try.f6 Rows.lruPinsRow.domain false) (Rows.lruPinsSpec.post enc Try.prog Try.f6 false true false false) := by
  refine returnsInHanded_of_change (C := Try.checked) own started (by kernel_rfl) Try.func6
    (ChangeSpec.witness6 (enc := enc) (C := Try.checked) false ⟨#[], #[.int .i64 0], []⟩ 8 (by kernel_rfl) (by kernel_rfl) (by kernel_rfl) (by kernel_rfl)) ?_
  intro W base args ds gs before hval0 hW _ _
  have hval : ∀ (j : Nat) t v, Try.f6.params[j]? = some t → args[j]? = some v → Value.okWide Try.prog W .any base t v := hval0
  have hW' := hW
  obtain ⟨p, q, hA0, hV, rfl, hfz, hnd⟩ := hW
  have hA : DataW.TrodAll enc Try.prog W 0 (fun _ => true) true Try.f6.params.toList args.toList ds p := hA0
  rw [Try.params6] at hA hval
  obtain ⟨v0, vs0, d0, ds0, p0, q0, hargs, rfl, rfl, h0, r0⟩ := trodAll_cons hA
  obtain ⟨rfl, rfl, rfl⟩ := trodAll_nil r0
  obtain rfl : args = #[v0] := by cases args; simp_all
  obtain ⟨rfl, rfl⟩ := trodVars_none hV
  have k0 := h0
  have lt0 : ∀ x ∈ p0, x.block < W.heap.size := by obtain ⟨m, hm⟩ := k0; exact DataW.trod_lt m _ _ _ hm
  obtain ⟨a0, rfl, rfl, rfl, w0⟩ := open_int Try.underlying3 (hval 0 3 v0 rfl rfl) h0
  clear hA0 hval0
  refine (lruPins_walk a0 w0 W).mono fun e W' ⟨he, bel⟩ => ?_
  subst he
  exact ⟨_, rfl, _, _, _, [], _, [], hW', trodAll_mk1 (shut_bool Try.underlying4 _), (trodAll_cons_mk (Below.trod laidOut (by kernel_rfl) (of_decide_eq_true (by kernel_rfl)) k0 bel lt0) trodAll_mk0), rfl, bel.frame _, fun h => by cases h⟩

theorem lruPins_said : Rows.LruPinsSaid :=
  OpenClaim.holds_of_wide 6 Try.f6 rfl rfl rfl rfl rfl rfl rfl ⟨rfl, rfl, rfl, rfl, rfl⟩ rfl rfl rfl rfl rfl (by kernel_rfl) Try.func6 (by kernel_rfl)
    (of_decide_eq_true (by kernel_rfl)) (by unfold Func.isWrapper; first | (rw [if_pos (by decide +kernel)]; kernel_rfl) | (rw [if_neg (by decide +kernel)]; exact ⟨rfl, rfl⟩))
    (fun os started H enc _ => lruPins_lifted os started H enc)
#print axioms lruPins_said
end Go.Proofs.Ytegmefchfphphaa
