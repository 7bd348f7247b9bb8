/- The statement BoxCloses of package ring: what is in a box when it is closed can still be taken, in order, and nothing more goes in; it holds of every list of ints. -/
import Derived.Test.YtffgdmdliddlpaaNewBox
import Derived.Test.YtffgdmdliddlpaaInts
import Derived.Test.YtffgdmdliddlpaaBase
import Derived.OpenShut
import Derived.ChangeOld
namespace Go.Proofs.Ytffgdmdliddlpaa
open Go Go.RowKit Go.ChangeShapes Go.WideShapes Go.ChangeAt
set_option maxRecDepth 100000
set_option maxHeartbeats 2000000
set_option linter.unusedSimpArgs false

theorem boxCloses_walk (v : Value) (l : List Int) (w : World) (hv : (∀ x ∈ l, i64ok x) ∧ Ints w v l) :
    Calls Try.prog 9 #[v] w fun e w' => e = .returned (.bool true) ∧ Below w.heap.size w w' := by
  obtain ⟨A, cap, rfl, h1, h2, h3⟩ := hv.2.one_
  clear hv
  have hlen : (l.length : Int) ≤ 9223372036854775807 := by omega
  by_cases hl : l.length ≤ 60
  · have d1 : decide (60 < (l.length : Int)) = false := by simp; omega
    have HL := Lib.hid hl
    have H3 := Lib.hid h3
    have hl60 : (l.length : Int) ≤ 60 := by omega
    clear h3 hl
    go_enter Try.func9, Try.ntmps9
    go_wp2_with fail
    refine (newbox_any l.length w l.length (by have := HL.out; omega)).mono ?_
    rintro e w1 ⟨p, rfl, hp, ⟨c, d, hc, hd, hX⟩, hB⟩
    have HX := Lib.hid hX
    have HB := Lib.hid hB
    have HP := Lib.hid (And.intro hc hd)
    clear hX hB hp hc hd
    go_wp2_with fail
    go_loopw [4] (fun i wr => ∃ k : Nat, k ≤ l.length ∧ i = .int .i64 k ∧ BoxAt wr p c d l.length (l.take k) false ∧ Below w.heap.size w wr) (fun i _ => l.length - (intOf i).toNat)
    case atStart => exact ⟨0, by omega, rfl, by simpa using HX.out, HB.out⟩
    case round =>
      obtain ⟨k, hk, rfl, hX, hB⟩ := hrel
      by_cases hlt : k < l.length
      · obtain ⟨b, o, rfl, hb, hcb⟩ := H3.out k hlt
        have hcr := (hB.cell (p := ⟨b, o + k, none⟩) hb).trans hcb
        have htk : l.take (k + 1) = l.take k ++ [l[k]] := by simp
        obtain ⟨x, hx⟩ : ∃ x, x = l[k] := ⟨_, rfl⟩
        rw [← hx] at hcr htk
        have HX1 := Lib.hid hX
        have HB1 := Lib.hid hB
        have HT := Lib.hid htk
        have HR : Hid ((l.take k).length < l.length) := Lib.hid (by simp; omega)
        clear hX hB htk hx hcb hb
        go_wp2_with fail
        refine (boxsend_room p c d l.length x (l.take k) _ HX1.out HR.out).mono ?_
        rintro e w2 ⟨rfl, hX, hT2⟩
        rw [← HT.out] at hX
        have HX2 := Lib.hid hX
        have HB2 := Lib.hid (HB1.out.trans (hT2.below HP.out.1 HP.out.2 HB1.out.size))
        clear hX hT2
        go_wp2
        go_roundw
        case rel => exact ⟨k + 1, by omega, by go_num, HX2.out, HB2.out⟩
        case measure => simp [intOf]; omega
      · have hkl : k = l.length := by omega
        subst hkl
        rw [List.take_length] at hX
        have HX1 := Lib.hid hX
        have HB1 := Lib.hid hB
        clear hX hB
        go_wp2_with fail
        refine (boxclose_open p c d l.length l _ HX1.out).mono ?_
        rintro e w2 ⟨rfl, hX, hT⟩
        have HX2 := Lib.hid hX
        have HB2 := Lib.hid (HB1.out.trans (hT.below HP.out.1 HP.out.2 HB1.out.size))
        clear hX hT
        go_wp2_with fail
        refine (boxclose_shut p c d l.length l _ HX2.out).mono ?_
        rintro e w3 ⟨rfl, rfl⟩
        go_wp2_with fail
        refine (boxsend_closed p c d l.length 1 l _ HX2.out).mono ?_
        rintro e w3 ⟨rfl, rfl⟩
        go_wp2_with fail
        refine (boxlen_any p c d l.length l true _ HX2.out).mono ?_
        rintro e w3 ⟨rfl, rfl⟩
        go_wp2_with fail
        go_loopw [5] (fun i wr => ∃ k : Nat, k ≤ l.length ∧ i = .int .i64 k ∧ BoxAt wr p c d l.length (l.drop k) true ∧ Below w.heap.size w wr) (fun i _ => l.length - (intOf i).toNat)
        case atStart => exact ⟨0, by omega, rfl, by simpa using HX2.out, HB2.out⟩
        case round =>
          obtain ⟨k, hk, rfl, hX, hB⟩ := hrel
          by_cases hlt : k < l.length
          · obtain ⟨b, o, rfl, hb, hcb⟩ := H3.out k hlt
            rw [List.drop_eq_getElem_cons hlt] at hX
            obtain ⟨x, hx⟩ : ∃ x, x = l[k] := ⟨_, rfl⟩
            rw [← hx] at hX hcb
            have HX3 := Lib.hid hX
            have HB3 := Lib.hid hB
            have HC := Lib.hid (And.intro hb hcb)
            clear hX hB hx hcb hb
            go_wp2_with fail
            refine (boxtake_cons p c d l.length x _ true _ HX3.out).mono ?_
            rintro e w4 ⟨rfl, hX, hT⟩
            have HX4 := Lib.hid hX
            have hB4 := HB3.out.trans (hT.below HP.out.1 HP.out.2 HB3.out.size)
            have hcr := (hB4.cell (p := ⟨b, o + k, none⟩) HC.out.1).trans HC.out.2
            have HB4 := Lib.hid hB4
            clear hX hT hB4
            go_wp2
            go_roundw
            case rel => exact ⟨k + 1, by omega, by go_num, HX4.out, HB4.out⟩
            case measure => simp [intOf]; omega
          · have hkl : k = l.length := by omega
            subst hkl
            rw [List.drop_length] at hX
            have HX3 := Lib.hid hX
            have HB3 := Lib.hid hB
            clear hX hB
            go_wp2_with fail
            refine (boxtake_empty p c d l.length true _ HX3.out).mono ?_
            rintro e w4 ⟨rfl, rfl⟩
            go_wp2_with fail
            refine (boxed_any _).mono ?_
            rintro e w5 ⟨rfl, hb5⟩
            have HX5 := Lib.hid (HX3.out.below hb5)
            have HB5 := Lib.hid (HB3.out.trans (hb5.mono HB3.out.size))
            clear hb5
            go_wp2_with fail
            refine (boxlen_any p c d l.length [] true _ HX5.out).mono ?_
            rintro e w6 ⟨rfl, rfl⟩
            go_wp2
            go_ret
            exact ⟨rfl, HB5.out⟩
  · have d1 : decide (60 < (l.length : Int)) = true := by simp; omega
    clear h3
    go_enter Try.func9, Try.ntmps9
    go_wp2_with (go_at_call 26; refine (boxed_any _).mono ?_; rintro e w' ⟨rfl, hb⟩)
    go_ret
    exact ⟨rfl, hb⟩

set_option maxRecDepth 100000 in
theorem boxCloses_lifted (os : Os) (started : os.Started) (H : Type) (enc : TypeId × Value → H) :
    ReturnsInHanded {} Try.checked os 9 .any (Rows.boxClosesSpec.pre6 enc Try.prog Try.f9 Rows.boxClosesRow.domain false) (Rows.boxClosesSpec.post enc Try.prog Try.f9 false true false false) := by
  refine returnsInHanded_of_change (C := Try.checked) own started (by kernel_rfl) Try.func9
    (ChangeSpec.witness6 (enc := enc) (C := Try.checked) false ⟨#[], #[.slice none 0 0], []⟩ 8 (by kernel_rfl) (by kernel_rfl) (by kernel_rfl) (by kernel_rfl)) ?_
  intro W base args ds gs before hval0 hW _ _
  have hval : ∀ (j : Nat) t v, Try.f9.params[j]? = some t → args[j]? = some v → Value.okWide Try.prog W .any base t v := hval0
  have hW' := hW
  obtain ⟨p, q, hA0, hV, rfl, hfz, hnd⟩ := hW
  have hA : DataW.TrodAll enc Try.prog W 0 (fun _ => true) true Try.f9.params.toList args.toList ds p := hA0
  rw [Try.params9] at hA hval
  obtain ⟨v0, vs0, d0, ds0, p0, q0, hargs, rfl, rfl, h0, r0⟩ := trodAll_cons hA
  obtain ⟨rfl, rfl, rfl⟩ := trodAll_nil r0
  obtain rfl : args = #[v0] := by cases args; simp_all
  obtain ⟨rfl, rfl⟩ := trodVars_none hV
  have k0 := h0
  have lt0 : ∀ x ∈ p0, x.block < W.heap.size := by obtain ⟨m, hm⟩ := k0; exact DataW.trod_lt m _ _ _ hm
  obtain ⟨a0, w0⟩ := ints_open (hval 0 40 v0 rfl rfl) k0
  clear hA0 hval0
  refine (boxCloses_walk v0 a0 W w0).mono fun e W' ⟨he, bel⟩ => ?_
  subst he
  exact ⟨_, rfl, _, _, _, [], _, [], hW', trodAll_mk1 (shut_bool Try.underlying4 _), (trodAll_cons_mk (Below.trod laidOut (by kernel_rfl) (of_decide_eq_true (by kernel_rfl)) k0 bel lt0) trodAll_mk0), rfl, bel.frame _, fun h => by cases h⟩

theorem boxCloses_said : Rows.BoxClosesSaid :=
  OpenClaim.holds_of_wide 9 Try.f9 rfl rfl rfl rfl rfl rfl rfl ⟨rfl, rfl, rfl, rfl, rfl⟩ rfl rfl rfl rfl rfl (by kernel_rfl) Try.func9 (by kernel_rfl)
    (of_decide_eq_true (by kernel_rfl)) (by unfold Func.isWrapper; first | (rw [if_pos (by decide +kernel)]; kernel_rfl) | (rw [if_neg (by decide +kernel)]; exact ⟨rfl, rfl⟩))
    (fun os started H enc _ => boxCloses_lifted os started H enc)
#print axioms boxCloses_said
end Go.Proofs.Ytffgdmdliddlpaa
