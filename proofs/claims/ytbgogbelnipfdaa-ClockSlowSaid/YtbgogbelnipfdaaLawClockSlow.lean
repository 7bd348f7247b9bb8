/- The statement ClockSlow of package tick: a clock's bound is broken just where eight steps one behind the other are too few or too many, and once broken it stays so; it holds of every list of ints and every int. -/
import Derived.Test.YtbgogbelnipfdaaTckD
namespace Go.Proofs.Ytbgogbelnipfdaa
open Go Go.RowKit Go.ChangeShapes Go.WideShapes Go.ChangeAt TckP
set_option maxRecDepth 100000
set_option maxHeartbeats 4000000
set_option linter.unusedSimpArgs false

theorem slow_at (l : List Int) (i : Nat) (hi : i < l.length) (j : Nat) (h1 : i - 7 ≤ j) (h2 : j ≤ i) :
    ((last8 (cl (l.take (i + 1)))).take (j + 1 - (i - 7))).sum = ((last8 (cl (l.take (i + 1)))).take (j - (i - 7))).sum + clampF (l[j]'(by omega)) := by
  have hl : (cl (l.take (i + 1))).length = i + 1 := by rw [cl_len, List.length_take]; omega
  have hT : (last8 (cl (l.take (i + 1)))).length = i + 1 - (i - 7) := by
    unfold last8
    rw [List.length_drop, hl]
    omega
  rw [show j + 1 - (i - 7) = (j - (i - 7)) + 1 by omega, sum_take_succ _ _ (by rw [hT]; omega)]
  congr 1
  unfold last8
  rw [List.getElem_drop]
  simp only [cl, List.getElem_map, List.getElem_take]
  congr 2
  simp only [List.length_map, List.length_take]
  omega
theorem slow_all (l : List Int) (i : Nat) (hi : i < l.length) :
    (last8 (cl (l.take (i + 1)))).take (i + 1 - (i - 7)) = last8 (cl (l.take (i + 1))) := by
  refine List.take_of_length_le ?_
  unfold last8
  rw [List.length_drop, cl_len, List.length_take]
  omega
theorem slow_good (l : List Int) (i : Nat) (hi : i < l.length) :
    inB (last8 (cl (l.take (i + 1)))) = (decide ((i : Int) < 7) || (decide (7 ≤ (last8 (cl (l.take (i + 1)))).sum) && decide ((last8 (cl (l.take (i + 1)))).sum ≤ 9))) := by
  unfold inB
  congr 1
  unfold last8
  rw [List.length_drop, cl_len, List.length_take]
  exact decide_eq_decide.2 (by omega)
theorem slow_in (l : List Int) (i q : Nat) : 0 ≤ ((last8 (cl (l.take (i + 1)))).take q).sum ∧ ((last8 (cl (l.take (i + 1)))).take q).sum ≤ 64 := by
  refine sum_take_in (fun x hx => cl_el _ x (List.mem_of_mem_drop hx)) ?_ q
  rw [List.length_drop]
  omega
theorem slow_b (l : List Int) (i : Nat) (hi : i < l.length) : (runC (l.take (i + 1))).b = ((runC (l.take i)).b || !inB (last8 (cl (l.take (i + 1))))) := by
  rw [List.take_succ_eq_append_getElem hi, run_b, cl_snoc]
theorem clockSlow_walk (v : Value) (l : List Int) (at_ : Int) (_wa : (Lit.int .i64 at_).wf = true) (w : World) (hv : (∀ x ∈ l, i64ok x) ∧ Ints w v l) :
    Calls Try.prog 7 #[v, .int .i64 at_] w fun e w' => e = .returned (.bool true) ∧ Below w.heap.size w w' := by
  obtain ⟨A, cap, rfl, h1, h2, h3⟩ := hv.2.one_
  have ha := wf_i64 _wa
  clear hv _wa
  have hlen : (l.length : Int) ≤ 9223372036854775807 := by omega
  by_cases hl : l.length ≤ 100
  · have d1 : decide (100 < (l.length : Int)) = false := decide_eq_false (by omega)
    have H3 := Lib.hid h3
    have HL := Lib.hid hl
    have HI := Lib.hid ha
    have HN := Lib.hid (tickNew_any w)
    clear h3 hl ha
    go_enter Try.func7, Try.ntmps7
    go_wp2_with fail
    refine HN.out.mono ?_
    rintro e w1 ⟨p, rfl, h1⟩
    have H1 : Hid (Has (CK p (runC (l.take 0))) w w1) := Lib.hid h1
    clear h1 HN
    go_wp2_with fail
    go_loopw [6, 7] (fun s i wr => ∃ (k : Nat) (b : Bool), k ≤ l.length ∧ i = .int .i64 (k : Int) ∧ s = .bool b ∧ Hid (b = (!(runC (l.take k)).b)) ∧ Hid (Has (CK p (runC (l.take k))) w wr)) (fun _ i _ => l.length - (intOf i).toNat)
    case atStart => exact ⟨0, true, by omega, rfl, rfl, Lib.hid rfl, H1⟩
    case round =>
      obtain ⟨i, was, hk, rfl, rfl, HW, hI⟩ := hrel
      by_cases hlt : i < l.length
      · obtain ⟨b, o, rfl, hb, hc⟩ := H3.out i hlt
        have hltI : (i : Int) < (l.length : Int) := by omega
        have hcr : wr.cell? ⟨b, o + i, none⟩ = some (.int .i64 l[i]) := (hI.out.below.cell hb).trans hc
        have hs := has_step l[i] hI.out (by rw [run_real, List.length_take]; have := HL.out; omega)
        rw [← run_snoc, ← List.take_succ_eq_append_getElem hlt] at hs
        obtain ⟨T, hT⟩ : ∃ T, T = last8 (cl (l.take (i + 1))) := ⟨_, rfl⟩
        have hgd := slow_good l i hlt
        have hat := slow_at l i hlt
        have hall := slow_all l i hlt
        have hin := slow_in l i
        have hnb := slow_b l i hlt
        rw [← hT] at hgd hat hall hin hnb
        obtain ⟨c, hcc⟩ : ∃ c, c = runC (l.take (i + 1)) := ⟨_, rfl⟩
        rw [← hcc] at hs hnb
        obtain ⟨x, hx⟩ : ∃ x, x = l[i] := ⟨_, rfl⟩
        rw [← hx] at hcr hs
        have HS := Lib.hid hs
        have HC := Lib.hid hcc
        have HG := Lib.hid hgd
        have HAT := Lib.hid hat
        have HALL := Lib.hid hall
        have HIN := Lib.hid hin
        have HNB := Lib.hid hnb
        have hi9 : i < 100 := by have := HL.out; omega
        obtain ⟨a, hA⟩ : ∃ a, a = i - 7 := ⟨_, rfl⟩
        have HX : Hid (max ((i : Int) - 7) 0 = (a : Int)) := Lib.hid (by omega)
        have ew7 : IntKind.i64.wrap ((i : Int) - 7) = (i : Int) - 7 := IntWalk.i64_in _ (by omega)
        have HAI : Hid (a = i - 7) := Lib.hid hA
        rw [← hA] at HAT HALL
        have hb1 := hI.out.below
        have HB1 := Lib.hid hb1
        clear hc hI hs hcc hx hT hgd hat hall hin hnb hA hb1
        go_wp2_with fail
        refine HS.out.mono ?_
        rintro e w2 ⟨rfl, h2⟩
        have hcells : Hid (∀ j (_ : j < l.length), w2.cell? ⟨b, o + j, none⟩ = some (.int .i64 l[j])) := Lib.hid fun j hj => by
          obtain ⟨b', o', e', hb', hc'⟩ := H3.out j hj
          simp only [Option.some.injEq, Addr.mk.injEq, and_true] at e'
          obtain ⟨rfl, rfl⟩ := e'
          exact (h2.below.cell hb').trans hc'
        have H2 := Lib.hid h2
        have HKP := Lib.hid (has_kept h2)
        clear h2 HS hcr
        generalize c.now = nv
        go_wp2_with ((with_reducible refine at_list ?_); refine wpList_max_eq rfl (.tmp 32) (.const (.int .i64 0)) _ rfl _ _ _ _ _ rfl rfl HX.out ?_)
        go_loopw [8, 9] (fun s jv wq => ∃ j : Nat, a ≤ j ∧ j ≤ i + 1 ∧ jv = .int .i64 (j : Int) ∧ s = .int .i64 (T.take (j - a)).sum ∧ wq = w2) (fun _ j _ => i + 1 - (intOf j).toNat)
        case atStart => exact ⟨a, by omega, by have := HAI.out; omega, rfl, by simp, rfl⟩
        case round =>
          obtain ⟨j, hj1, hj2, rfl, rfl, rfl⟩ := hrel
          obtain ⟨s, hs⟩ : ∃ s, s = (T.take (j - a)).sum := ⟨_, rfl⟩
          have hsb := HIN.out (j - a)
          rw [← hs] at hsb ⊢
          by_cases hlt2 : j ≤ i
          · have hltJ : (j : Int) ≤ (i : Int) := by omega
            have hjl : j < l.length := by omega
            have hjL : (j : Int) < (l.length : Int) := by omega
            obtain ⟨y, hy⟩ : ∃ y, y = clampF l[j] := ⟨_, rfl⟩
            have hsn := HAT.out j hj1 hlt2
            have hsn2 := HIN.out (j + 1 - a)
            rw [hsn, ← hs, ← hy] at hsn2
            rw [← hs, ← hy] at hsn
            have HSN := Lib.hid hsn
            have HM : Hid (min (max l[j] 0) 8 = y) := Lib.hid hy.symm
            have hcj := hcells.out j hjl
            obtain ⟨x2, hx2⟩ : ∃ x2, x2 = l[j] := ⟨_, rfl⟩
            rw [← hx2] at hcj HM
            have ew : IntKind.i64.wrap (s + y) = s + y := IntWalk.i64_in _ (by omega)
            clear hs hy hx2 hsn
            go_wp2_with (first | ((with_reducible refine at_list ?_); refine wpList_max_eq rfl (.tmp 43) (.const (.int .i64 0)) _ rfl _ _ _ _ _ rfl rfl rfl ?_) | ((with_reducible refine at_list ?_); refine wpList_min_eq rfl (.tmp 44) (.const (.int .i64 8)) _ rfl _ _ _ _ _ rfl rfl HM.out ?_))
            go_roundw
            case rel => exact ⟨j + 1, by omega, by omega, by go_num, by rw [HSN.out], trivial⟩
            case measure => simp [intOf]; omega
          · obtain rfl : j = i + 1 := by omega
            have hgd := HG.out
            have hnb := HNB.out
            rw [HALL.out] at hs
            rw [← hs] at hgd
            have HW' := HW.out
            have hgw : (!c.b) = (was && inB T) := by
              rw [hnb, HW']
              simp [Bool.not_or]
            have HGW := Lib.hid hgw
            have HBC : Hid ((!c.b) = (!(runC (l.take (i + 1))).b)) := Lib.hid (by rw [HC.out])
            obtain ⟨B, hB⟩ : ∃ B, B = !c.b := ⟨_, rfl⟩
            rw [← hB] at HGW HKP HBC
            obtain ⟨G, hG⟩ : ∃ G, G = inB T := ⟨_, rfl⟩
            rw [← hG] at HGW hgd
            clear hs hnb HW' hgw hB hG
            have HGD := Lib.hid hgd
            clear hgd
            have hni : ¬ ((i : Int) + 1 ≤ (i : Int)) := by omega
            have t0 : decide ((i : Int) + 1 ≤ (i : Int)) = false := decide_eq_false hni
            have HDI : Hid (decide (i < 7) = decide ((i : Int) < 7)) := Lib.hid (decide_eq_decide.2 (by omega))
            have t0' : decide (i + 1 ≤ i) = false := decide_eq_false (by omega)
            cases d1 : decide ((i : Int) < 7) <;> cases d2 : decide (7 ≤ s) <;> cases d3 : decide (s ≤ 9) <;> cases was
            all_goals
              have hg := HGD.out
              have hw := HGW.out
              rw [d1, d2, d3] at hg
              simp only [Bool.false_or, Bool.true_or, Bool.false_and, Bool.true_and, Bool.and_self, Bool.and_false] at hg
              subst hg
              simp only [Bool.false_and, Bool.true_and] at hw
              subst hw
              have d1' := HDI.out
              rw [d1] at d1'
              go_wp2_with (go_at_call 11; refine HKP.out.mono ?_; rintro e w' ⟨rfl, rfl⟩)
              go_roundw
              case rel => exact ⟨i + 1, _, by omega, by go_num, rfl, HBC, Lib.hid (HC.out ▸ H2.out)⟩
              case measure => simp [intOf]; omega
      · obtain rfl : i = l.length := by omega
        have h9 := hI.out
        rw [List.take_length] at h9
        have hrl := run_real l
        generalize runC l = c at h9 hrl
        have H9 := Lib.hid h9
        have HTM := Lib.hid (tm_new wr)
        clear hI h9
        go_wp2_with fail
        have hx := H9.out.with_ (holdCK _ _) HTM.out
        refine (((tset_turns at_).right (holdCK p c) (holdTM _ _ _)).has hx).mono ?_
        rintro e w3 ⟨rfl, h3⟩
        have H3 := Lib.hid h3
        have HB := Lib.hid ((holdCK p c).both (holdTM wr.heap.size at_ true))
        clear h3 hx HTM H9
        go_wp2_with fail
        refine (alive16_any w3).mono ?_
        rintro e w4 ⟨rfl, hb⟩
        have H4 := Lib.hid (H3.out.down HB.out hb)
        clear hb H3
        go_wp2_with fail
        refine (((tdue_yes at_ HI.out HI.out (Int.le_refl at_)).right (holdCK p c) (holdTM _ _ _)).has H4.out).mono ?_
        rintro e w5 ⟨rfl, h5⟩
        have H5 := Lib.hid h5
        clear h5 H4
        go_wp2_with fail
        refine (tdue_no at_ (by omega) HI.out (H5.out.snd (holdTM _ _ _)).here rfl).mono ?_
        rintro e w' ⟨rfl, rfl⟩
        go_wp2_with fail
        refine (tleft_any (H5.out.snd (holdTM _ _ _)).here at_ (by omega) HI.out).mono ?_
        rintro e w' ⟨rfl, rfl⟩
        have hR := has_real (H5.out.fst (holdCK _ _))
        rw [hrl] at hR
        have HR := Lib.hid hR
        have e0 : leftF 0 false at_ = -1 := rfl
        rw [e0]
        clear hR e0
        go_wp2_with fail
        refine HR.out.mono ?_
        rintro e w' ⟨rfl, rfl⟩
        go_wp2
        go_ret
        exact ⟨rfl, H5.out.below⟩
  · have d1 : decide (100 < (l.length : Int)) = true := decide_eq_true (by omega)
    have HA := Lib.hid (alive16_any w)
    clear h3
    go_enter Try.func7, Try.ntmps7
    go_wp2_with fail
    refine HA.out.mono ?_
    rintro e w1 ⟨rfl, hb⟩
    go_wp2
    go_ret
    exact ⟨rfl, hb⟩

set_option maxRecDepth 100000 in
theorem clockSlow_lifted (os : Os) (started : os.Started) (H : Type) (enc : TypeId × Value → H) :
    ReturnsInHanded {} Try.checked os 7 .any (Rows.clockSlowSpec.pre6 enc Try.prog Try.f7 Rows.clockSlowRow.domain false) (Rows.clockSlowSpec.post enc Try.prog Try.f7 false true false false) := by
  refine returnsInHanded_of_change (C := Try.checked) own started (by kernel_rfl) Try.func7
    (ChangeSpec.witness6 (enc := enc) (C := Try.checked) false ⟨#[], #[.slice none 0 0, .int .i64 0], []⟩ 8 (by kernel_rfl) (by kernel_rfl) (by kernel_rfl) (by kernel_rfl)) ?_
  intro W base args ds gs before hval0 hW _ _
  have hval : ∀ (j : Nat) t v, Try.f7.params[j]? = some t → args[j]? = some v → Value.okWide Try.prog W .any base t v := hval0
  have hW' := hW
  obtain ⟨p, q, hA0, hV, rfl, hfz, hnd⟩ := hW
  have hA : DataW.TrodAll enc Try.prog W 0 (fun _ => true) true Try.f7.params.toList args.toList ds p := hA0
  rw [Try.params7] at hA hval
  obtain ⟨v0, vs0, d0, ds0, p0, q0, hargs, rfl, rfl, h0, r0⟩ := trodAll_cons hA
  obtain ⟨v1, vs1, d1, ds1, p1, q1, rfl, rfl, rfl, h1, r1⟩ := trodAll_cons r0
  obtain ⟨rfl, rfl, rfl⟩ := trodAll_nil r1
  obtain rfl : args = #[v0, v1] := by cases args; simp_all
  obtain ⟨rfl, rfl⟩ := trodVars_none hV
  have k0 := h0
  have lt0 : ∀ x ∈ p0, x.block < W.heap.size := by obtain ⟨m, hm⟩ := k0; exact DataW.trod_lt m _ _ _ hm
  have k1 := h1
  have lt1 : ∀ x ∈ p1, x.block < W.heap.size := by obtain ⟨m, hm⟩ := k1; exact DataW.trod_lt m _ _ _ hm
  obtain ⟨a0, w0⟩ := ints_open (hval 0 22 v0 rfl rfl) k0
  obtain ⟨a1, rfl, rfl, rfl, w1⟩ := open_int Try.underlying3 (hval 1 3 v1 rfl rfl) h1
  clear hA0 hval0
  refine (clockSlow_walk v0 a0 a1 w1 W w0).mono fun e W' ⟨he, bel⟩ => ?_
  subst he
  exact ⟨_, rfl, _, _, _, [], _, [], hW', trodAll_mk1 (shut_bool Try.underlying4 _), (trodAll_cons_mk (Below.trod laidOut (by kernel_rfl) (of_decide_eq_true (by kernel_rfl)) k0 bel lt0) (trodAll_cons_mk (Below.trod laidOut (by kernel_rfl) (of_decide_eq_true (by kernel_rfl)) k1 bel lt1) trodAll_mk0)), rfl, bel.frame _, fun h => by cases h⟩

theorem clockSlow_said : Rows.ClockSlowSaid :=
  OpenClaim.holds_of_wide 7 Try.f7 rfl rfl rfl rfl rfl rfl rfl ⟨rfl, rfl, rfl, rfl, rfl⟩ rfl rfl rfl rfl rfl (by kernel_rfl) Try.func7 (by unfold joinedFacts; simp only [Bool.and_eq_true]; and_intros <;> as_aux_lemma => kernel_rfl)
    (of_decide_eq_true (by kernel_rfl)) (by unfold Func.isWrapper; first | (rw [if_pos (by decide +kernel)]; kernel_rfl) | (rw [if_neg (by decide +kernel)]; exact ⟨rfl, rfl⟩))
    (fun os started H enc _ => clockSlow_lifted os started H enc)
#print axioms clockSlow_said
end Go.Proofs.Ytbgogbelnipfdaa
