/- The statement RingRound of package ring: values come out in the order in which they went in, however often the ring goes round, and there are never more than have room; it holds of every int and every list of ints. -/
import Derived.Test.YtffgdmdliddlpaaAlive
import Derived.Test.YtffgdmdliddlpaaRingEI
import Derived.Test.YtffgdmdliddlpaaInts
import Derived.Test.YtffgdmdliddlpaaBase
import Derived.Test.YtffgdmdliddlpaaBits
import Derived.OpenShut
import Derived.ChangeOld
namespace Go.Proofs.Ytffgdmdliddlpaa
open Go Go.RowKit Go.ChangeShapes Go.WideShapes Go.ChangeAt
set_option maxRecDepth 100000
set_option maxHeartbeats 2000000
set_option linter.unusedSimpArgs false

/-- The numbers from a up to b, b left out. -/
def run (a b : Nat) : List Int := (List.range' a (b - a)).map (fun n : Nat => (n : Int))
theorem run_length (a b : Nat) : (run a b).length = b - a := by simp [run]
theorem run_push (a b : Nat) (h : a ≤ b) : run a b ++ [(b : Int)] = run a (b + 1) := by
  have e : b + 1 - a = (b - a) + 1 := by omega
  rw [run, run, e, List.range'_concat, List.map_append]
  simp
  omega
theorem run_pop (a b : Nat) (h : a < b) : run a b = (a : Int) :: run (a + 1) b := by
  have e : b - a = (b - (a + 1)) + 1 := by omega
  rw [run, run, e, List.range'_succ]
  simp
theorem run_none (a : Nat) : run a a = [] := by simp [run]

theorem ringRound_walk (room : Int) (_wr : (Lit.int .i64 room).wf = true) (v : Value) (l : List Int) (w : World) (hv : (∀ x ∈ l, i64ok x) ∧ Ints w v l) :
    Calls Try.prog 7 #[.int .i64 room, v] w fun e w' => e = .returned (.bool true) ∧ Below w.heap.size w w' := by
  clear _wr
  obtain ⟨A, cap, rfl, h1, h2, h3⟩ := hv.2.one_
  have hok := hv.1
  clear hv
  have hlen : (l.length : Int) ≤ 9223372036854775807 := by omega
  have tail : ∀ b1 b2 b3, decide (room < 1) = b1 → decide (50 < room) = b2 → decide (60 < (l.length : Int)) = b3 → (b1 || b2 || b3) = true →
      Calls Try.prog 7 #[.int .i64 room, .slice A l.length cap] w fun e w' => e = .returned (.bool true) ∧ Below w.heap.size w w' := by
    intro b1 b2 b3 d1 d2 d3 hb
    clear h3 hok
    cases b1 <;> cases b2 <;> cases b3 <;> first
      | (exact absurd hb (by decide))
      | (clear hb
         go_enter Try.func7, Try.ntmps7
         go_wp2_with (go_at_call 10; refine (alive_any _).mono ?_; rintro e w' ⟨rfl, hb⟩)
         go_ret
         exact ⟨rfl, hb⟩)
  by_cases hg : 1 ≤ room ∧ room ≤ 50 ∧ l.length ≤ 60
  · clear tail
    obtain ⟨g1, g2, g3⟩ := hg
    obtain ⟨m, rfl⟩ := Int.eq_ofNat_of_zero_le (show 0 ≤ room by omega)
    have d1 : decide ((m : Int) < 1) = false := by simp; omega
    have d2 : decide (50 < (m : Int)) = false := by simp; omega
    have d3 : decide (60 < (l.length : Int)) = false := by simp; omega
    have hl60 : (l.length : Int) ≤ 60 := by omega
    have H3 := Lib.hid h3
    have HOK := Lib.hid hok
    have HM := Lib.hid (And.intro g1 g2)
    clear h3 hok g1 g2 g3
    go_enter Try.func7, Try.ntmps7
    go_wp2_with fail
    refine (newI_any m w m (by have := HM.out; omega)).mono ?_
    rintro e w1 ⟨rfl, hR, hB⟩
    have HR := Lib.hid hR
    have HB := Lib.hid hB
    clear hR hB
    obtain ⟨p, hp⟩ : ∃ p, p = w.heap.size := ⟨_, rfl⟩
    rw [← hp] at HR ⊢
    have HP := Lib.hid hp
    clear hp
    go_wp2_with fail
    go_loopw [8, 6, 7] (fun i a b wr => ∃ (k inn out g : Nat), k ≤ l.length ∧ i = .int .i64 k ∧ a = .int .i64 inn ∧ b = .int .i64 out ∧ out ≤ inn ∧ inn ≤ 15 * k ∧ w.heap.size ≤ g ∧ RingI wr p g m (run out inn) ∧ Below w.heap.size w wr) (fun i _ _ _ => l.length - (intOf i).toNat)
    case atStart => exact ⟨0, 0, 0, p, by omega, rfl, rfl, rfl, by omega, by omega, by have := HP.out; omega, by rw [run_none]; exact HR.out, HB.out⟩
    case round =>
      obtain ⟨k, inn, out, g, hk, rfl, rfl, rfl, hio, hi15, hg, hR, hB⟩ := hrel
      have hi15' : (inn : Int) ≤ 900 := by omega
      by_cases hlt : k < l.length
      · obtain ⟨b, o, rfl, hb, hcb⟩ := H3.out k hlt
        have hcr := (hB.cell (p := ⟨b, o + k, none⟩) hb).trans hcb
        have hyk := HOK.out l[k] (List.getElem_mem hlt)
        obtain ⟨y, hy⟩ : ∃ y, y = l[k] := ⟨_, rfl⟩
        rw [← hy] at hcr hyk hcb
        have HR1 := Lib.hid hR
        have HB1 := Lib.hid hB
        have HC := Lib.hid (And.intro hb hcb)
        have HY := Lib.hid hy
        have HYK := Lib.hid hyk
        have HG := Lib.hid hg
        have HIO := Lib.hid (And.intro hio hi15)
        clear hR hB hb hcb hy hyk hg hio hi15
        go_wp2_with fail
        obtain ⟨n1, hn1, e1⟩ := bits_and_i64 y 15 (by omega)
        rw [show bits BinOp.and .i64 y 15 = (n1 : Int) from e1]
        have hn1' : (n1 : Int) ≤ 15 := by omega
        have HN1 := Lib.hid (And.intro hn1 e1)
        clear hn1 e1
        go_loopw [10, 6] (fun i a wr => ∃ (j inn g : Nat), j ≤ n1 ∧ i = .int .i64 j ∧ a = .int .i64 inn ∧ out ≤ inn ∧ inn ≤ 15 * k + j ∧ w.heap.size ≤ g ∧ RingI wr p g m (run out inn) ∧ Below w.heap.size w wr) (fun i _ _ => n1 - (intOf i).toNat)
        case atStart => exact ⟨0, inn, g, by omega, rfl, rfl, HIO.out.1, by have := HIO.out.2; omega, HG.out, HR1.out, HB1.out⟩
        case round =>
          clear HIO HG HR1 HB1
          obtain ⟨j, inn, g, hj, rfl, rfl, hio, hi15, hg, hR, hB⟩ := hrel
          have hi900 : (inn : Int) ≤ 1000 := by have := HN1.out.1; omega
          by_cases hlt2 : j < n1
          · have hlr := hR.head
            rw [run_length] at hlr
            have hRN := hR.below ((Below.refl _ wr).alloc (Nat.le_refl _) (.cells #[.int .i64 inn] 3))
            have hSN := Sits.fresh wr 3 #[.int .i64 inn]
            have hBN := hB.alloc hB.size (.cells #[.int .i64 inn] 3)
            have hltg := hR.lt
            have hsl := sliceI_sits hSN [(inn : Int)] 1 (by simp) (by omega) (fun i hi => by
              rcases i with _ | i
              · rfl
              · simp at hi)
            have HH := Lib.hid (And.intro hRN (And.intro hBN (And.intro hsl (And.intro hltg (And.intro hio (And.intro hi15 (And.intro hg (And.intro hlr.1 hlr.2.1))))))))
            clear hlr hRN hSN hBN hltg hsl hio hi15 hg hR hB
            go_wp2_with fail
            refine (pushI_any p g m (run out inn) [(inn : Int)] (some ⟨wr.heap.size, 0, none⟩) 1 _ rfl _ HH.out.1 HH.out.2.2.1 (fun b o _ e => by
              have := HH.out.2.2.2.1
              simp only [Option.some.injEq, Addr.mk.injEq, and_true] at e
              omega)).mono ?_
            rintro e w2 ⟨rfl, g2, hg2, hR2, hT⟩
            have hP := HP.out
            have hB2 := HH.out.2.1.trans (hT.below (by omega) HH.out.2.2.2.2.2.2.1 HH.out.2.1.size)
            have hg2' : w.heap.size ≤ g2 := by
              have := HH.out.2.1.size
              have := HH.out.2.2.2.2.2.2.1
              rcases hg2 with rfl | h <;> omega
            rw [run_length] at hR2
            rw [run_length]
            by_cases hful : inn - out < m
            · have em : min [(inn : Int)].length (m - (inn - out)) = 1 := by simp; omega
              rw [em] at hR2 ⊢
              rw [List.take_of_length_le (by simp), run_push out inn HH.out.2.2.2.2.1] at hR2
              have H2 := Lib.hid (And.intro hR2 (And.intro hB2 hg2'))
              clear hR2 hB2 hg2' hT hg2 hP em hful
              go_wp2
              go_roundw
              case rel => exact ⟨j + 1, inn + 1, g2, by omega, by go_num, by go_num, by have := HH.out.2.2.2.2.1; omega, by have := HH.out.2.2.2.2.2.1; omega, H2.out.2.2, H2.out.1, H2.out.2.1⟩
              case measure => simp [intOf]; omega
            · have em : min [(inn : Int)].length (m - (inn - out)) = 0 := by simp; omega
              rw [em] at hR2 ⊢
              rw [List.take_zero, List.append_nil] at hR2
              have H2 := Lib.hid (And.intro hR2 (And.intro hB2 hg2'))
              clear hR2 hB2 hg2' hT hg2 hP em hful
              go_wp2
              go_roundw
              case rel => exact ⟨j + 1, inn, g2, by omega, by go_num, rfl, HH.out.2.2.2.2.1, by have := HH.out.2.2.2.2.2.1; omega, H2.out.2.2, H2.out.1, H2.out.2.1⟩
              case measure => simp [intOf]; omega
          · have H2 := Lib.hid (And.intro hR (And.intro hB (And.intro hg (And.intro hio hi15))))
            clear hR hB hg hio hi15
            go_wp2_with fail
            obtain ⟨n3, hn3, e3⟩ := bits_and_i64 (y / 16) 15 (by omega)
            have hn3' : (n3 : Int) ≤ 15 := by omega
            have e3' : bits BinOp.and .i64 (y / 16) 15 = (n3 : Int) := e3
            clear e3 hn3
            go_loopw [11, 7] (fun i b wr => ∃ (j2 out g : Nat), j2 ≤ n3 ∧ i = .int .i64 j2 ∧ b = .int .i64 out ∧ out ≤ inn ∧ w.heap.size ≤ g ∧ RingI wr p g m (run out inn) ∧ Below w.heap.size w wr) (fun i _ _ => n3 - (intOf i).toNat)
            case atStart => exact ⟨0, out, g, by omega, rfl, rfl, H2.out.2.2.2.1, H2.out.2.2.1, H2.out.1, H2.out.2.1⟩
            case round =>
              have HI15 := Lib.hid H2.out.2.2.2.2
              clear H2
              obtain ⟨j2, out, g, hj2, rfl, rfl, hio, hg, hR, hB⟩ := hrel
              have hcr := (hB.cell (p := ⟨b, o + k, none⟩) HC.out.1).trans HC.out.2
              have hi900o : (out : Int) ≤ 1000 := by omega
              have HH := Lib.hid (And.intro hR (And.intro hB (And.intro hg hio)))
              clear hR hB hg hio
              by_cases hlt3 : j2 < n3
              · have dlt3 : decide (j2 < n3) = true := by simp [hlt3]
                go_wp2_with fail
                by_cases hsome : out < inn
                · have hpop := popI_cons p g m out (run (out + 1) inn) wr (by rw [← run_pop out inn hsome]; exact HH.out.1)
                  refine hpop.mono ?_
                  rintro e w2 ⟨rfl, hR, hT⟩
                  have H3' := Lib.hid (And.intro hR (HH.out.2.1.trans (hT.below (by have := HP.out; omega) HH.out.2.2.1 HH.out.2.1.size)))
                  clear hR hT hpop
                  have dl : decide (out < inn) = true := by simp [hsome]
                  go_wp2
                  go_roundw
                  case rel => exact ⟨j2 + 1, out + 1, g, by omega, by go_num, by go_num, by omega, HH.out.2.2.1, H3'.out.1, H3'.out.2⟩
                  case measure => simp [intOf]; omega
                · have hoi : out = inn := by have := HH.out.2.2.2; omega
                  subst hoi
                  have hpop := popI_empty p g m wr (by rw [← run_none out]; exact HH.out.1)
                  refine hpop.mono ?_
                  rintro e w2 ⟨rfl, rfl⟩
                  clear hpop
                  have dl : decide (out < out) = false := by simp
                  go_wp2
                  go_roundw
                  case rel => exact ⟨j2 + 1, out, g, by omega, by go_num, rfl, by omega, HH.out.2.2.1, HH.out.1, HH.out.2.1⟩
                  case measure => simp [intOf]; omega
              · have dlt3 : decide (j2 < n3) = false := by simp [hlt3]
                have hlr := HH.out.1.head
                rw [run_length] at hlr
                have hr2 := hlr.2.1
                have hr3 := HH.out.2.2.2
                have hsub : ((inn - out : Nat) : Int) = (inn : Int) - (out : Int) := by omega
                have hroom : (inn : Int) - (out : Int) ≤ (m : Int) := by omega
                have dA : decide ((m : Int) < (inn : Int) - (out : Int)) = false := by simp; omega
                have wA : wrap64 ((m : Int) - ((inn : Int) - (out : Int))) = (m : Int) - ((inn : Int) - (out : Int)) := by unfold wrap64; omega
                clear hlr hr2
                go_wp2_with fail
                refine (lenI_any p g m (run out inn) _ HH.out.1).mono ?_
                rintro e w2 ⟨rfl, rfl⟩
                rw [run_length, hsub]
                go_wp2_with fail
                refine (lenI_any p g m (run out inn) _ HH.out.1).mono ?_
                rintro e w2 ⟨rfl, rfl⟩
                rw [run_length, hsub]
                go_wp2_with fail
                refine (roomI_any p g m (run out inn) _ HH.out.1).mono ?_
                rintro e w2 ⟨rfl, nr, rfl⟩
                rw [run_length, hsub]
                go_wp2_with fail
                refine (lenI_any p g m (run out inn) _ (HH.out.1.drewN nr)).mono ?_
                rintro e w2 ⟨rfl, rfl⟩
                rw [run_length, hsub]
                go_wp2
                go_roundw
                case rel => exact ⟨k + 1, inn, out, g, by omega, by go_num, rfl, rfl, hr3, by have := HI15.out; have := HN1.out; omega, HH.out.2.2.1, HH.out.1.drewN nr, below_drewN HH.out.2.1 nr⟩
                case measure => simp [intOf]; omega
      · have HB2 := Lib.hid hB
        clear hR hB hg
        go_wp2_with fail
        refine (alive_any _).mono ?_
        rintro e w3 ⟨rfl, hb⟩
        have HB3 := Lib.hid (HB2.out.trans (hb.mono HB2.out.size))
        clear hb
        go_wp2
        go_ret
        exact ⟨rfl, HB3.out⟩
  · refine tail _ _ _ rfl rfl rfl ?_
    simp only [Bool.or_eq_true, decide_eq_true_eq]
    omega

set_option maxRecDepth 100000 in
theorem ringRound_lifted (os : Os) (started : os.Started) (H : Type) (enc : TypeId × Value → H) :
    ReturnsInHanded {} Try.checked os 7 .any (Rows.ringRoundSpec.pre6 enc Try.prog Try.f7 Rows.ringRoundRow.domain false) (Rows.ringRoundSpec.post enc Try.prog Try.f7 false true false false) := by
  refine returnsInHanded_of_change (C := Try.checked) own started (by kernel_rfl) Try.func7
    (ChangeSpec.witness6 (enc := enc) (C := Try.checked) false ⟨#[], #[.int .i64 0, .slice none 0 0], []⟩ 8 (by kernel_rfl) (by kernel_rfl) (by kernel_rfl) (by kernel_rfl)) ?_
  intro W base args ds gs before hval0 hW _ _
  have hval : ∀ (j : Nat) t v, Try.f7.params[j]? = some t → args[j]? = some v → Value.okWide Try.prog W .any base t v := hval0
  have hW' := hW
  obtain ⟨p, q, hA0, hV, rfl, hfz, hnd⟩ := hW
  have hA : DataW.TrodAll enc Try.prog W 0 (fun _ => true) true Try.f7.params.toList args.toList ds p := hA0
  rw [Try.params7] at hA hval
  obtain ⟨v0, vs0, d0, ds0, p0, q0, hargs, rfl, rfl, h0, r0⟩ := trodAll_cons hA
  obtain ⟨v1, vs1, d1, ds1, p1, q1, rfl, rfl, rfl, h1, r1⟩ := trodAll_cons r0
  obtain ⟨rfl, rfl, rfl⟩ := trodAll_nil r1
  obtain rfl : args = #[v0, v1] := by cases args; simp_all
  obtain ⟨rfl, rfl⟩ := trodVars_none hV
  have k0 := h0
  have lt0 : ∀ x ∈ p0, x.block < W.heap.size := by obtain ⟨m, hm⟩ := k0; exact DataW.trod_lt m _ _ _ hm
  have k1 := h1
  have lt1 : ∀ x ∈ p1, x.block < W.heap.size := by obtain ⟨m, hm⟩ := k1; exact DataW.trod_lt m _ _ _ hm
  obtain ⟨a0, rfl, rfl, rfl, w0⟩ := open_int Try.underlying3 (hval 0 3 v0 rfl rfl) h0
  obtain ⟨a1, w1⟩ := ints_open (hval 1 40 v1 rfl rfl) k1
  clear hA0 hval0
  refine (ringRound_walk a0 w0 v1 a1 W w1).mono fun e W' ⟨he, bel⟩ => ?_
  subst he
  exact ⟨_, rfl, _, _, _, [], _, [], hW', trodAll_mk1 (shut_bool Try.underlying4 _), (trodAll_cons_mk (Below.trod laidOut (by kernel_rfl) (of_decide_eq_true (by kernel_rfl)) k0 bel lt0) (trodAll_cons_mk (Below.trod laidOut (by kernel_rfl) (of_decide_eq_true (by kernel_rfl)) k1 bel lt1) trodAll_mk0)), rfl, bel.frame _, fun h => by cases h⟩

theorem ringRound_said : Rows.RingRoundSaid :=
  OpenClaim.holds_of_wide 7 Try.f7 rfl rfl rfl rfl rfl rfl rfl ⟨rfl, rfl, rfl, rfl, rfl⟩ rfl rfl rfl rfl rfl (by kernel_rfl) Try.func7 (by kernel_rfl)
    (of_decide_eq_true (by kernel_rfl)) (by unfold Func.isWrapper; first | (rw [if_pos (by decide +kernel)]; kernel_rfl) | (rw [if_neg (by decide +kernel)]; exact ⟨rfl, rfl⟩))
    (fun os started H enc _ => ringRound_lifted os started H enc)
#print axioms ringRound_said
end Go.Proofs.Ytffgdmdliddlpaa
