/- The statement TimerPlays of package tick: every timer, and every call, in every order; it holds of every list of pairs of ints. -/
import Derived.Test.YtbgogbelnipfdaaTckD
import Derived.Test.YtbgogbelnipfdaaTckE
import Derived.Test.YtbgogbelnipfdaaBits
namespace Go.Proofs.Ytbgogbelnipfdaa
open Go Go.RowKit Go.ChangeShapes Go.WideShapes Go.ChangeAt TckP
set_option maxRecDepth 100000
set_option maxHeartbeats 4000000
set_option linter.unusedSimpArgs false

theorem timerPlays_walk (v : Value) (l : List (Int × Int)) (w : World) (hv : (∀ x ∈ l, i64ok x.1 ∧ i64ok x.2) ∧ Pairs w v l) :
    Calls Try.prog 5 #[v] w fun e w' => e = .returned (.bool true) ∧ Below w.heap.size w w' := by
  obtain ⟨hin, A, cap, rfl, h1, h2, h3⟩ := hv
  have hlen : (l.length : Int) ≤ 9223372036854775807 := by omega
  by_cases hl : l.length ≤ 100
  · have d1 : decide (100 < (l.length : Int)) = false := decide_eq_false (by omega)
    have H3 := Lib.hid h3
    have HIN := Lib.hid hin
    have H0 := Lib.hid (tm_new w)
    clear h3 hin
    go_enter Try.func5, Try.ntmps5
    go_wp2_with fail
    generalize w.heap.size = g at H0 ⊢
    go_loopw [4, 5, 6] (fun sv av iv wr => ∃ (k : Nat) (s : Bool) (at_ a : Int), k ≤ l.length ∧ iv = .int .i64 (k : Int) ∧ sv = .bool s ∧ av = .int .i64 at_ ∧ Hid ((-9223372036854775808 ≤ at_ ∧ at_ ≤ 9223372036854775807) ∧ (-9223372036854775808 ≤ a ∧ a ≤ 9223372036854775807) ∧ (s = true → a = at_)) ∧ Hid (Has (TM g a s) w wr)) (fun _ _ i _ => l.length - (intOf i).toNat)
    case atStart => exact ⟨0, false, 0, 0, by omega, rfl, rfl, rfl, Lib.hid ⟨by omega, by omega, fun h => nomatch h⟩, H0⟩
    case round =>
      obtain ⟨k, s, at_, a, hk, rfl, rfl, rfl, HSA, hI⟩ := hrel
      by_cases hlt : k < l.length
      · obtain ⟨b, o, rfl, hb, hc⟩ := H3.out k hlt
        have hltI : (k : Int) < (l.length : Int) := by omega
        have c0 := (hI.out.below.cell hb).trans (hc 0 _ rfl)
        have c1 := (hI.out.below.cell hb).trans (hc 1 _ rfl)
        have hN := (HIN.out l[k] (List.getElem_mem hlt)).2
        rw [Nat.add_zero] at c0
        unfold i64ok at hN
        obtain ⟨y, hy, hbits⟩ := bits_and_i64 (l[k].1) 3 (by omega)
        obtain ⟨n, hn⟩ : ∃ n, n = l[k].2 := ⟨_, rfl⟩
        obtain ⟨z, hz⟩ : ∃ z, z = l[k].1 := ⟨_, rfl⟩
        rw [← hn] at c1 hN
        rw [← hz] at c0 hbits
        have HN := Lib.hid hN
        have HAT := Lib.hid HSA.out.1
        have HAB := Lib.hid HSA.out.2.1
        have HSE := Lib.hid HSA.out.2.2
        clear hc hN hn hz HSA
        rcases (show y = 0 ∨ y = 1 ∨ y = 2 ∨ y = 3 by omega) with rfl | rfl | rfl | rfl
        · have hbt : bits .and .i64 z 3 = 0 := hbits
          clear hbits
          have HX := Lib.hid ((tset_turns n).has hI.out)
          have hnn : decide (n < n) = false := decide_eq_false (by omega)
          clear hI
          go_wp2_with fail
          refine HX.out.mono ?_
          rintro e w2 ⟨rfl, h2⟩
          have H2 := Lib.hid h2
          clear h2 HX
          have HA := HN
          have HLF : Hid (leftF n true n = 0) := Lib.hid (by simp [leftF])
          go_wp2_with fail
          refine (tleft_any H2.out.here n (by have := HN.out; have := HA.out; have := HAT.out; omega) HN.out).mono ?_
          rintro e w' ⟨rfl, rfl⟩
          rw [show leftF n true n = 0 from HLF.out]
          go_wp2
          go_roundw
          case rel => exact ⟨k + 1, _, _, _, by omega, by go_num, rfl, rfl, Lib.hid ⟨HN.out, HN.out, fun _ => rfl⟩, H2⟩
          case measure => simp [intOf]; omega
        · have hbt : bits .and .i64 z 3 = 1 := hbits
          clear hbits
          cases s with
          | false =>
            have HA := HAB
            go_wp2_with fail
            refine (tdue_no n HAB.out HN.out hI.out.here rfl).mono ?_
            rintro e w' ⟨rfl, rfl⟩
            have HLF : Hid (leftF a false n = -1) := Lib.hid rfl
            go_wp2_with fail
            refine (tleft_any hI.out.here n (by have := HN.out; have := HA.out; have := HAT.out; omega) HN.out).mono ?_
            rintro e w' ⟨rfl, rfl⟩
            rw [show leftF a false n = -1 from HLF.out]
            go_wp2
            go_roundw
            case rel => exact ⟨k + 1, _, _, _, by omega, by go_num, rfl, rfl, Lib.hid ⟨HAT.out, HAB.out, fun h => nomatch h⟩, hI⟩
            case measure => simp [intOf]; omega
          | true =>
            obtain rfl := HSE.out rfl
            by_cases hd : a ≤ n
            · have t1 : decide (a ≤ n) = true := decide_eq_true hd
              have HX := Lib.hid ((tdue_yes n HAT.out HN.out hd).has hI.out)
              clear hI hd
              go_wp2_with fail
              refine HX.out.mono ?_
              rintro e w2 ⟨rfl, h2⟩
              have H2 := Lib.hid h2
              clear h2 HX
              have HA : Hid ((-9223372036854775808 : Int) ≤ 0 ∧ (0 : Int) ≤ 9223372036854775807) := Lib.hid (by omega)
              have HLF : Hid (leftF 0 false n = -1) := Lib.hid rfl
              go_wp2_with fail
              refine (tleft_any H2.out.here n (by have := HN.out; have := HA.out; have := HAT.out; omega) HN.out).mono ?_
              rintro e w' ⟨rfl, rfl⟩
              rw [show leftF 0 false n = -1 from HLF.out]
              go_wp2
              go_roundw
              case rel => exact ⟨k + 1, _, _, _, by omega, by go_num, rfl, rfl, Lib.hid ⟨HAT.out, HA.out, fun h => nomatch h⟩, H2⟩
              case measure => simp [intOf]; omega
            · have t1 : decide (a ≤ n) = false := decide_eq_false hd
              have t2 : decide (n < a) = true := decide_eq_true (by omega)
              have HA := HAT
              rcases wrap_left HAT.out HN.out (show n < a by omega) with ⟨h2, h3⟩ | ⟨h2, h3⟩
              · have d2 : decide (a - n < 0) = false := decide_eq_false (by omega)
                have HLF : Hid (leftF a true n = a - n) := Lib.hid (by simp only [leftF]; rw [if_neg (by simp), if_neg hd]; omega)
                obtain ⟨d, hdd⟩ : ∃ d, d = a - n := ⟨_, rfl⟩
                have h4 : IntKind.i64.wrap (a - n) = d := h3.trans hdd.symm
                rw [← hdd] at d2 HLF
                have HDF : Hid (dueF a true n = false) := Lib.hid (by unfold dueF; rw [t1]; rfl)
                clear hdd h3 h2 hd
                go_wp2_with fail
                refine (tdue_no n HAT.out HN.out hI.out.here HDF.out).mono ?_
                rintro e w' ⟨rfl, rfl⟩
                go_wp2_with fail
                refine (tleft_any hI.out.here n (by have := HN.out; have := HA.out; have := HAT.out; omega) HN.out).mono ?_
                rintro e w' ⟨rfl, rfl⟩
                rw [show leftF a true n = d from HLF.out]
                go_wp2
                go_roundw
                case rel => exact ⟨k + 1, _, _, _, by omega, by go_num, rfl, rfl, Lib.hid ⟨HAT.out, HAT.out, fun _ => rfl⟩, hI⟩
                case measure => simp [intOf]; omega
              · have HLF : Hid (leftF a true n = 9223372036854775807) := Lib.hid (by simp only [leftF]; rw [if_neg (by simp), if_neg hd]; omega)
                obtain ⟨d, hdd⟩ : ∃ d, d = IntKind.i64.wrap (a - n) := ⟨_, rfl⟩
                have h4 := hdd.symm
                rw [h4] at h3
                have d2 : decide (d < 0) = true := decide_eq_true h3
                have HDF : Hid (dueF a true n = false) := Lib.hid (by unfold dueF; rw [t1]; rfl)
                clear hdd h2 hd h3
                go_wp2_with fail
                refine (tdue_no n HAT.out HN.out hI.out.here HDF.out).mono ?_
                rintro e w' ⟨rfl, rfl⟩
                go_wp2_with fail
                refine (tleft_any hI.out.here n (by have := HN.out; have := HA.out; have := HAT.out; omega) HN.out).mono ?_
                rintro e w' ⟨rfl, rfl⟩
                rw [show leftF a true n = 9223372036854775807 from HLF.out]
                go_wp2
                go_roundw
                case rel => exact ⟨k + 1, _, _, _, by omega, by go_num, rfl, rfl, Lib.hid ⟨HAT.out, HAT.out, fun _ => rfl⟩, hI⟩
                case measure => simp [intOf]; omega
        · have hbt : bits .and .i64 z 3 = 2 := hbits
          clear hbits
          have HX := Lib.hid (tstop_turns.has hI.out)
          clear hI
          go_wp2_with fail
          refine HX.out.mono ?_
          rintro e w2 ⟨rfl, h2⟩
          have H2 := Lib.hid h2
          clear h2 HX
          have HA : Hid ((-9223372036854775808 : Int) ≤ 0 ∧ (0 : Int) ≤ 9223372036854775807) := Lib.hid (by omega)
          have HLF : Hid (leftF 0 false n = -1) := Lib.hid rfl
          go_wp2_with fail
          refine (tleft_any H2.out.here n (by have := HN.out; have := HA.out; have := HAT.out; omega) HN.out).mono ?_
          rintro e w' ⟨rfl, rfl⟩
          rw [show leftF 0 false n = -1 from HLF.out]
          go_wp2
          go_roundw
          case rel => exact ⟨k + 1, _, _, _, by omega, by go_num, rfl, rfl, Lib.hid ⟨HAT.out, HA.out, fun h => nomatch h⟩, H2⟩
          case measure => simp [intOf]; omega
        · have hbt : bits .and .i64 z 3 = 3 := hbits
          clear hbits
          cases s with
          | false =>
            have HA := HAB
            have HLF : Hid (leftF a false n = -1) := Lib.hid rfl
            go_wp2_with fail
            refine (tleft_any hI.out.here n (by have := HN.out; have := HA.out; have := HAT.out; omega) HN.out).mono ?_
            rintro e w' ⟨rfl, rfl⟩
            rw [show leftF a false n = -1 from HLF.out]
            go_wp2
            go_roundw
            case rel => exact ⟨k + 1, _, _, _, by omega, by go_num, rfl, rfl, Lib.hid ⟨HAT.out, HAB.out, fun h => nomatch h⟩, hI⟩
            case measure => simp [intOf]; omega
          | true =>
            obtain rfl := HSE.out rfl
            by_cases hd : a ≤ n
            · have t1 : decide (n < a) = false := decide_eq_false (by omega)
              have HA := HAT
              have HLF : Hid (leftF a true n = 0) := Lib.hid (by simp [leftF, hd])
              clear hd
              go_wp2_with fail
              refine (tleft_any hI.out.here n (by have := HN.out; have := HA.out; have := HAT.out; omega) HN.out).mono ?_
              rintro e w' ⟨rfl, rfl⟩
              rw [show leftF a true n = 0 from HLF.out]
              go_wp2
              go_roundw
              case rel => exact ⟨k + 1, _, _, _, by omega, by go_num, rfl, rfl, Lib.hid ⟨HAT.out, HAT.out, fun _ => rfl⟩, hI⟩
              case measure => simp [intOf]; omega
            · have t1 : decide (a ≤ n) = false := decide_eq_false hd
              have t2 : decide (n < a) = true := decide_eq_true (by omega)
              have HA := HAT
              rcases wrap_left HAT.out HN.out (show n < a by omega) with ⟨h2, h3⟩ | ⟨h2, h3⟩
              · have d2 : decide (a - n < 0) = false := decide_eq_false (by omega)
                have HLF : Hid (leftF a true n = a - n) := Lib.hid (by simp only [leftF]; rw [if_neg (by simp), if_neg hd]; omega)
                obtain ⟨d, hdd⟩ : ∃ d, d = a - n := ⟨_, rfl⟩
                have h4 : IntKind.i64.wrap (a - n) = d := h3.trans hdd.symm
                rw [← hdd] at d2 HLF
                have HDF : Hid (dueF a true n = false) := Lib.hid (by unfold dueF; rw [t1]; rfl)
                clear hdd h3 h2 hd
                go_wp2_with fail
                refine (tleft_any hI.out.here n (by have := HN.out; have := HA.out; have := HAT.out; omega) HN.out).mono ?_
                rintro e w' ⟨rfl, rfl⟩
                rw [show leftF a true n = d from HLF.out]
                go_wp2
                go_roundw
                case rel => exact ⟨k + 1, _, _, _, by omega, by go_num, rfl, rfl, Lib.hid ⟨HAT.out, HAT.out, fun _ => rfl⟩, hI⟩
                case measure => simp [intOf]; omega
              · have HLF : Hid (leftF a true n = 9223372036854775807) := Lib.hid (by simp only [leftF]; rw [if_neg (by simp), if_neg hd]; omega)
                obtain ⟨d, hdd⟩ : ∃ d, d = IntKind.i64.wrap (a - n) := ⟨_, rfl⟩
                have h4 := hdd.symm
                rw [h4] at h3
                have d2 : decide (d < 0) = true := decide_eq_true h3
                have HDF : Hid (dueF a true n = false) := Lib.hid (by unfold dueF; rw [t1]; rfl)
                clear hdd h2 hd h3
                go_wp2_with fail
                refine (tleft_any hI.out.here n (by have := HN.out; have := HA.out; have := HAT.out; omega) HN.out).mono ?_
                rintro e w' ⟨rfl, rfl⟩
                rw [show leftF a true n = 9223372036854775807 from HLF.out]
                go_wp2
                go_roundw
                case rel => exact ⟨k + 1, _, _, _, by omega, by go_num, rfl, rfl, Lib.hid ⟨HAT.out, HAT.out, fun _ => rfl⟩, hI⟩
                case measure => simp [intOf]; omega
      · obtain rfl : k = l.length := by omega
        have HB := Lib.hid hI.out.below
        have HA := Lib.hid (alive16_any wr)
        clear hI
        go_wp2_with fail
        refine HA.out.mono ?_
        rintro e w2 ⟨rfl, hb⟩
        have HB2 := Lib.hid (HB.out.trans (hb.mono HB.out.size))
        clear hb
        go_wp2
        go_ret
        exact ⟨rfl, HB2.out⟩
  · have d1 : decide (100 < (l.length : Int)) = true := decide_eq_true (by omega)
    have HA := Lib.hid (alive16_any w)
    clear h3 hin
    go_enter Try.func5, Try.ntmps5
    go_wp2_with fail
    refine HA.out.mono ?_
    rintro e w1 ⟨rfl, hb⟩
    go_wp2
    go_ret
    exact ⟨rfl, hb⟩

set_option maxRecDepth 100000 in
theorem timerPlays_lifted (os : Os) (started : os.Started) (H : Type) (enc : TypeId × Value → H) :
    ReturnsInHanded {} Try.checked os 5 .any (Rows.timerPlaysSpec.pre6 enc Try.prog Try.f5 Rows.timerPlaysRow.domain false) (Rows.timerPlaysSpec.post enc Try.prog Try.f5 false true false false) := by
  refine returnsInHanded_of_change (C := Try.checked) own started (by kernel_rfl) Try.func5
    (ChangeSpec.witness6 (enc := enc) (C := Try.checked) false ⟨#[], #[.slice none 0 0], []⟩ 8 (by kernel_rfl) (by kernel_rfl) (by kernel_rfl) (by kernel_rfl)) ?_
  intro W base args ds gs before hval0 hW _ _
  have hval : ∀ (j : Nat) t v, Try.f5.params[j]? = some t → args[j]? = some v → Value.okWide Try.prog W .any base t v := hval0
  have hW' := hW
  obtain ⟨p, q, hA0, hV, rfl, hfz, hnd⟩ := hW
  have hA : DataW.TrodAll enc Try.prog W 0 (fun _ => true) true Try.f5.params.toList args.toList ds p := hA0
  rw [Try.params5] at hA hval
  obtain ⟨v0, vs0, d0, ds0, p0, q0, hargs, rfl, rfl, h0, r0⟩ := trodAll_cons hA
  obtain ⟨rfl, rfl, rfl⟩ := trodAll_nil r0
  obtain rfl : args = #[v0] := by cases args; simp_all
  obtain ⟨rfl, rfl⟩ := trodVars_none hV
  have k0 := h0
  have lt0 : ∀ x ∈ p0, x.block < W.heap.size := by obtain ⟨m, hm⟩ := k0; exact DataW.trod_lt m _ _ _ hm
  obtain ⟨a0, w0⟩ := pairs_open (hval 0 36 v0 rfl rfl) k0
  clear hA0 hval0
  refine (timerPlays_walk v0 a0 W w0).mono fun e W' ⟨he, bel⟩ => ?_
  subst he
  exact ⟨_, rfl, _, _, _, [], _, [], hW', trodAll_mk1 (shut_bool Try.underlying4 _), (trodAll_cons_mk (Below.trod laidOut (by kernel_rfl) (of_decide_eq_true (by kernel_rfl)) k0 bel lt0) trodAll_mk0), rfl, bel.frame _, fun h => by cases h⟩

theorem timerPlays_said : Rows.TimerPlaysSaid :=
  OpenClaim.holds_of_wide 5 Try.f5 rfl rfl rfl rfl rfl rfl rfl ⟨rfl, rfl, rfl, rfl, rfl⟩ rfl rfl rfl rfl rfl (by kernel_rfl) Try.func5 (by unfold joinedFacts; simp only [Bool.and_eq_true]; and_intros <;> as_aux_lemma => kernel_rfl)
    (of_decide_eq_true (by kernel_rfl)) (by unfold Func.isWrapper; first | (rw [if_pos (by decide +kernel)]; kernel_rfl) | (rw [if_neg (by decide +kernel)]; exact ⟨rfl, rfl⟩))
    (fun os started H enc _ => timerPlays_lifted os started H enc)
#print axioms timerPlays_said
end Go.Proofs.Ytbgogbelnipfdaa
