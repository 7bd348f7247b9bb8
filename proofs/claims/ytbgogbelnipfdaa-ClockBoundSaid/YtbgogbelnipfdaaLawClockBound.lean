/- The statement ClockBound of package tick: while the bound is kept a clock's time is from seven to nine eighths of the real one, give and take 9; it holds of every list of ints. -/
import Derived.Test.YtbgogbelnipfdaaTckD
namespace Go.Proofs.Ytbgogbelnipfdaa
open Go Go.RowKit Go.ChangeShapes Go.WideShapes Go.ChangeAt TckP
set_option maxRecDepth 100000
set_option maxHeartbeats 2000000
set_option linter.unusedSimpArgs false

theorem take_succ_snoc {l : List Int} {k : Nat} (hk : k < l.length) : l.take (k + 1) = l.take k ++ [l[k]] := List.take_succ_eq_append_getElem hk
theorem clockBound_walk (v : Value) (l : List Int) (w : World) (hv : (∀ x ∈ l, i64ok x) ∧ Ints w v l) :
    Calls Try.prog 4 #[v] w fun e w' => e = .returned (.bool true) ∧ Below w.heap.size w w' := by
  obtain ⟨A, cap, rfl, h1, h2, h3⟩ := hv.2.one_
  clear hv
  have hlen : (l.length : Int) ≤ 9223372036854775807 := by omega
  by_cases hl : l.length ≤ 300
  · have d1 : decide (300 < (l.length : Int)) = false := decide_eq_false (by omega)
    have H3 := Lib.hid h3
    have HL := Lib.hid hl
    have HN := Lib.hid (tickNew_any w)
    clear h3 hl
    go_enter Try.func4, Try.ntmps4
    go_wp2_with fail
    refine HN.out.mono ?_
    rintro e w1 ⟨p, rfl, h1⟩
    have H1 : Hid (Has (CK p (runC (l.take 0))) w w1) := Lib.hid h1
    clear h1 HN
    go_wp2_with fail
    go_loopw [4] (fun i wr => ∃ k : Nat, k ≤ l.length ∧ i = .int .i64 (k : Int) ∧ Hid (Has (CK p (runC (l.take k))) w wr)) (fun i _ => l.length - (intOf i).toNat)
    case atStart => exact ⟨0, by omega, rfl, H1⟩
    case round =>
      obtain ⟨k, hk, rfl, hI⟩ := hrel
      by_cases hlt : k < l.length
      · obtain ⟨b, o, rfl, hb, hc⟩ := H3.out k hlt
        have hltI : (k : Int) < (l.length : Int) := by omega
        have hcr : wr.cell? ⟨b, o + k, none⟩ = some (.int .i64 l[k]) := (hI.out.below.cell hb).trans hc
        have hok := run_ok (l.take (k + 1))
        have hbd := clock_bound (l.take (k + 1))
        have hrl : (runC (l.take (k + 1))).real = k + 1 := by rw [run_real, List.length_take]; omega
        rw [List.length_take, Nat.min_eq_left (by omega)] at hbd
        have hs := has_step l[k] hI.out (by rw [run_real, List.length_take]; have := HL.out; omega)
        rw [← run_snoc, ← take_succ_snoc hlt] at hs
        have hL := HL.out
        have hn1 := hok.lo
        have hn2 := hok.hi
        rw [hrl] at hn2
        obtain ⟨c, hcc⟩ : ∃ c, c = runC (l.take (k + 1)) := ⟨_, rfl⟩
        rw [← hcc] at hs hbd hn1 hn2 hrl
        obtain ⟨x, hx⟩ : ∃ x, x = l[k] := ⟨_, rfl⟩
        rw [← hx] at hcr hs
        have HS := Lib.hid hs
        have HC := Lib.hid hcc
        have hk0 : k < 300 := by omega
        clear hc hI hs hok hcc hx
        go_wp2_with fail
        refine HS.out.mono ?_
        rintro e w2 ⟨rfl, h2⟩
        have HK := has_kept h2
        have HR := has_real h2
        have HN := has_now h2
        have H2 := Lib.hid h2
        rw [hrl] at HR
        obtain ⟨N, hN⟩ : ∃ N, N = c.now := ⟨_, rfl⟩
        obtain ⟨B, hB⟩ : ∃ B, B = c.b := ⟨_, rfl⟩
        rw [← hN] at HN hbd hn1 hn2 ⊢
        rw [← hB] at HK hbd
        have HK := Lib.hid HK
        have HR := Lib.hid HR
        have HN := Lib.hid HN
        have hR1 : (((k + 1 : Nat) : Int)) = (k : Int) + 1 := by omega
        rw [hR1] at HR hbd hn2
        clear h2 HS hN hB hrl hcr
        cases B with
        | true =>
          clear hbd
          go_wp2_with fail
          refine HK.out.mono ?_
          rintro e w' ⟨rfl, rfl⟩
          go_wp2
          go_roundw
          case rel => exact ⟨k + 1, by omega, by go_num, HC.out ▸ H2⟩
          case measure => simp [intOf]; omega
        | false =>
          by_cases h8 : 8 ≤ k + 1
          · have hb9 := hbd rfl h8
            have t1 : decide (8 ≤ (k : Int) + 1) = true := decide_eq_true (by omega)
            have e1 : IntKind.i64.wrap (8 * N) = 8 * N := IntWalk.i64_in _ (by omega)
            have e2 : IntKind.i64.wrap (7 * ((k : Int) + 1)) = 7 * ((k : Int) + 1) := IntWalk.i64_in _ (by omega)
            have e3 : IntKind.i64.wrap (7 * ((k : Int) + 1) - 72) = 7 * ((k : Int) + 1) - 72 := IntWalk.i64_in _ (by omega)
            have e4 : IntKind.i64.wrap (9 * ((k : Int) + 1)) = 9 * ((k : Int) + 1) := IntWalk.i64_in _ (by omega)
            have e5 : IntKind.i64.wrap (9 * ((k : Int) + 1) + 72) = 9 * ((k : Int) + 1) + 72 := IntWalk.i64_in _ (by omega)
            have t2 : decide (8 * N < 7 * ((k : Int) + 1) - 72) = false := decide_eq_false (by omega)
            have t3 : decide (9 * ((k : Int) + 1) + 72 < 8 * N) = false := decide_eq_false (by omega)
            clear hb9 hbd hn1 hn2 hR1
            go_wp2_with fail
            refine HK.out.mono ?_
            rintro e w' ⟨rfl, rfl⟩
            go_wp2_with fail
            refine HR.out.mono ?_
            rintro e w' ⟨rfl, rfl⟩
            go_wp2_with fail
            refine HN.out.mono ?_
            rintro e w' ⟨rfl, rfl⟩
            go_wp2_with fail
            refine HR.out.mono ?_
            rintro e w' ⟨rfl, rfl⟩
            go_wp2_with fail
            refine HN.out.mono ?_
            rintro e w' ⟨rfl, rfl⟩
            go_wp2_with fail
            refine HR.out.mono ?_
            rintro e w' ⟨rfl, rfl⟩
            go_wp2
            go_roundw
            case rel => exact ⟨k + 1, by omega, by go_num, HC.out ▸ H2⟩
            case measure => simp [intOf]; omega
          · have t1 : decide (8 ≤ (k : Int) + 1) = false := decide_eq_false (by omega)
            clear hbd hn1 hn2
            go_wp2_with fail
            refine HK.out.mono ?_
            rintro e w' ⟨rfl, rfl⟩
            go_wp2_with fail
            refine HR.out.mono ?_
            rintro e w' ⟨rfl, rfl⟩
            go_wp2
            go_roundw
            case rel => exact ⟨k + 1, by omega, by go_num, HC.out ▸ H2⟩
            case measure => simp [intOf]; omega
      · obtain rfl : k = l.length := by omega
        have HB := Lib.hid hI.out.below
        have HA := Lib.hid (alive16_any wr)
        clear hI
        go_wp2_with fail
        refine HA.out.mono ?_
        rintro e w2 ⟨rfl, hb⟩
        have HB2 := Lib.hid (HB.out.trans (hb.mono HB.out.size))
        clear hb
        go_wp2
        go_ret
        exact ⟨rfl, HB2.out⟩
  · have d1 : decide (300 < (l.length : Int)) = true := decide_eq_true (by omega)
    have HA := Lib.hid (alive16_any w)
    clear h3
    go_enter Try.func4, Try.ntmps4
    go_wp2_with fail
    refine HA.out.mono ?_
    rintro e w1 ⟨rfl, hb⟩
    go_wp2
    go_ret
    exact ⟨rfl, hb⟩

set_option maxRecDepth 100000 in
theorem clockBound_lifted (os : Os) (started : os.Started) (H : Type) (enc : TypeId × Value → H) :
    ReturnsInHanded {} Try.checked os 4 .any (Rows.clockBoundSpec.pre6 enc Try.prog Try.f4 Rows.clockBoundRow.domain false) (Rows.clockBoundSpec.post enc Try.prog Try.f4 false true false false) := by
  refine returnsInHanded_of_change (C := Try.checked) own started (by kernel_rfl) Try.func4
    (ChangeSpec.witness6 (enc := enc) (C := Try.checked) false ⟨#[], #[.slice none 0 0], []⟩ 8 (by kernel_rfl) (by kernel_rfl) (by kernel_rfl) (by kernel_rfl)) ?_
  intro W base args ds gs before hval0 hW _ _
  have hval : ∀ (j : Nat) t v, Try.f4.params[j]? = some t → args[j]? = some v → Value.okWide Try.prog W .any base t v := hval0
  have hW' := hW
  obtain ⟨p, q, hA0, hV, rfl, hfz, hnd⟩ := hW
  have hA : DataW.TrodAll enc Try.prog W 0 (fun _ => true) true Try.f4.params.toList args.toList ds p := hA0
  rw [Try.params4] at hA hval
  obtain ⟨v0, vs0, d0, ds0, p0, q0, hargs, rfl, rfl, h0, r0⟩ := trodAll_cons hA
  obtain ⟨rfl, rfl, rfl⟩ := trodAll_nil r0
  obtain rfl : args = #[v0] := by cases args; simp_all
  obtain ⟨rfl, rfl⟩ := trodVars_none hV
  have k0 := h0
  have lt0 : ∀ x ∈ p0, x.block < W.heap.size := by obtain ⟨m, hm⟩ := k0; exact DataW.trod_lt m _ _ _ hm
  obtain ⟨a0, w0⟩ := ints_open (hval 0 22 v0 rfl rfl) k0
  clear hA0 hval0
  refine (clockBound_walk v0 a0 W w0).mono fun e W' ⟨he, bel⟩ => ?_
  subst he
  exact ⟨_, rfl, _, _, _, [], _, [], hW', trodAll_mk1 (shut_bool Try.underlying4 _), (trodAll_cons_mk (Below.trod laidOut (by kernel_rfl) (of_decide_eq_true (by kernel_rfl)) k0 bel lt0) trodAll_mk0), rfl, bel.frame _, fun h => by cases h⟩

theorem clockBound_said : Rows.ClockBoundSaid :=
  OpenClaim.holds_of_wide 4 Try.f4 rfl rfl rfl rfl rfl rfl rfl ⟨rfl, rfl, rfl, rfl, rfl⟩ rfl rfl rfl rfl rfl (by kernel_rfl) Try.func4 (by unfold joinedFacts; simp only [Bool.and_eq_true]; and_intros <;> as_aux_lemma => kernel_rfl)
    (of_decide_eq_true (by kernel_rfl)) (by unfold Func.isWrapper; first | (rw [if_pos (by decide +kernel)]; kernel_rfl) | (rw [if_neg (by decide +kernel)]; exact ⟨rfl, rfl⟩))
    (fun os started H enc _ => clockBound_lifted os started H enc)
#print axioms clockBound_said
end Go.Proofs.Ytbgogbelnipfdaa
