/- The statement RingDrops of package ring: dropping so many is as taking so many, one by one, and setting a place changes that place alone; it holds of every list of ints and every three ints. -/
import Derived.Test.YtffgdmdliddlpaaAlive
import Derived.Test.YtffgdmdliddlpaaRingEI
import Derived.Test.YtffgdmdliddlpaaInts
import Derived.Test.YtffgdmdliddlpaaBase
import Derived.OpenShut
import Derived.ChangeOld
namespace Go.Proofs.Ytffgdmdliddlpaa
open Go Go.RowKit Go.ChangeShapes Go.WideShapes Go.ChangeAt
set_option maxRecDepth 100000
set_option maxHeartbeats 2000000
set_option linter.unusedSimpArgs false

theorem Ints.ofSits {w : World} {b t : Nat} {l : List Int} (h : Sits w b t (l.map (fun x => Value.int .i64 x)).toArray) (hl : (l.length : Int) ≤ 9223372036854775807) : Ints w (.slice (some ⟨b, 0, none⟩) l.length l.length) l :=
  sliceI_sits h l l.length (Nat.le_refl _) hl (fun i hi => by simp [hi])
theorem ringDrops_walk (v : Value) (l : List Int) (n : Int) (_wn : (Lit.int .i64 n).wf = true) (k : Int) (_wk : (Lit.int .i64 k).wf = true) (x : Int) (_wx : (Lit.int .i64 x).wf = true) (w : World)
    (hv : (∀ x ∈ l, i64ok x) ∧ Ints w v l) :
    Calls Try.prog 8 #[v, .int .i64 n, .int .i64 k, .int .i64 x] w fun e w' => e = .returned (.bool true) ∧ Below w.heap.size w w' := by
  clear _wn _wk _wx
  obtain ⟨A, cap, rfl, h1, h2, h3⟩ := hv.2.one_
  have hints := hv.2
  clear hv
  have hlen : (l.length : Int) ≤ 9223372036854775807 := by omega
  by_cases hl : l.length ≤ 60
  · have d1 : decide (60 < (l.length : Int)) = false := by simp; omega
    have HL := Lib.hid hl
    have HI := Lib.hid hints
    have HA : Hid (∀ b o, 0 < l.length → A = some ⟨b, o, none⟩ → b < w.heap.size) := Lib.hid (fun b o h0 e => by
      obtain ⟨b', o', e', h, _⟩ := h3 0 h0
      rw [e] at e'
      simp only [Option.some.injEq, Addr.mk.injEq, and_true] at e'
      omega)
    have hl60 : (l.length : Int) ≤ 60 := by omega
    clear h3 hl hints
    go_enter Try.func8, Try.ntmps8
    go_wp2_with fail
    refine (newI_any l.length w l.length (by have := HL.out; omega)).mono ?_
    rintro e w1 ⟨rfl, hR, hB⟩
    obtain ⟨pa, hpa⟩ : ∃ pa, pa = w.heap.size := ⟨_, rfl⟩
    rw [← hpa] at hR ⊢
    have HPA := Lib.hid hpa
    have HR1 := Lib.hid hR
    have HB1 := Lib.hid hB
    clear hR hB hpa
    go_wp2_with fail
    refine (newI_any l.length w1 l.length (by have := HL.out; omega)).mono ?_
    rintro e w2 ⟨rfl, hRb, hB⟩
    have hRa := HR1.out.below hB
    have hB2 := HB1.out.trans (hB.mono HB1.out.size)
    have hlt1 := HR1.out.lt
    obtain ⟨pb, hpb⟩ : ∃ pb, pb = w1.heap.size := ⟨_, rfl⟩
    rw [← hpb] at hRb hlt1 ⊢
    have HAB : Hid (w.heap.size ≤ pa ∧ pa < pb) := Lib.hid (by have := HPA.out; omega)
    have HR2 := Lib.hid (And.intro hRa hRb)
    have HB2 := Lib.hid hB2
    clear hRa hRb hB hB2 hpb hlt1 HR1
    go_wp2_with fail
    refine (pushI_any pa pa l.length [] l A cap l.length (by simp) _ HR2.out.1 (HI.out.below HB2.out) (fun b o h0 e => by have := HA.out b o h0 e; have := HAB.out; omega)).mono ?_
    rintro e w3 ⟨rfl, ga, hga, hRa, hT⟩
    have hltb := HR2.out.2.lt
    have hgpb : pb ≠ ga := by
      have := HAB.out
      rcases hga with rfl | h <;> omega
    have hRb := HR2.out.2.two HR2.out.1 hT (by have := HAB.out; omega) (by have := HAB.out; omega)
    rw [List.nil_append, List.take_length] at hRa
    have HGA : Hid (w.heap.size ≤ ga) := Lib.hid (by have := HAB.out; have := HB2.out.size; rcases hga with rfl | h <;> omega)
    have HR3 := Lib.hid (And.intro hRa (And.intro hRb hgpb))
    have HB3 := Lib.hid (HB2.out.trans (hT.below HAB.out.1 HAB.out.1 HB2.out.size))
    clear hga hRa hRb hT hltb hgpb HR2 HB2
    go_wp2_with fail
    refine (pushI_any pb pb l.length [] l A cap l.length (by simp) _ HR3.out.2.1 (HI.out.below HB3.out) (fun b o h0 e => by have := HA.out b o h0 e; have := HAB.out; omega)).mono ?_
    rintro e w4 ⟨rfl, gb, hgb, hRb, hT⟩
    have hlta := HR3.out.1.lt
    have hgg : ga ≠ gb := by
      have := HR3.out.2.2
      rcases hgb with rfl | h <;> omega
    have hRa := HR3.out.1.two HR3.out.2.1 hT (by have := HAB.out; omega) (Ne.symm HR3.out.2.2)
    rw [List.nil_append, List.take_length] at hRb
    have HGB : Hid (w.heap.size ≤ gb) := Lib.hid (by have := HAB.out; have := HB3.out.size; rcases hgb with rfl | h <;> omega)
    have HR4 := Lib.hid (And.intro hRa (And.intro hRb hgg))
    have HB4 := Lib.hid (HB3.out.trans (hT.below (by have := HAB.out; omega) (by have := HAB.out; omega) HB3.out.size))
    clear hgb hRa hRb hT hlta hgg HR3 HB3
    obtain ⟨m, hm⟩ : ∃ m, m = min n.toNat l.length := ⟨_, rfl⟩
    have hml : (m : Int) ≤ 60 := by omega
    have hml2 : m ≤ l.length := by omega
    have HM := Lib.hid hm
    have HM2 := Lib.hid hml2
    clear hm hml2
    go_wp2_with fail
    refine (dropI_any pa ga l.length l n m HM.out _ HR4.out.1).mono ?_
    rintro e w5 ⟨rfl, hRa, hT⟩
    have hRb := HR4.out.2.1.two HR4.out.1 hT (by have := HAB.out; omega) (Ne.symm HR4.out.2.2)
    have HR5 := Lib.hid (And.intro hRa (And.intro hRb HR4.out.2.2))
    have HB5 := Lib.hid (HB4.out.trans (hT.below HAB.out.1 HGA.out HB4.out.size))
    clear hRa hRb hT HR4 HB4
    go_wp2_with fail
    go_loopw [12] (fun i wr => ∃ j : Nat, j ≤ m ∧ i = .int .i64 j ∧ RingI wr pa ga l.length (l.drop m) ∧ RingI wr pb gb l.length (l.drop j) ∧ Below w.heap.size w wr) (fun i _ => m - (intOf i).toNat)
    case atStart => exact ⟨0, by omega, rfl, HR5.out.1, HR5.out.2.1, HB5.out⟩
    case round =>
      obtain ⟨j, hj, rfl, hRa, hRb, hB⟩ := hrel
      by_cases hlt : j < m
      · have HRa := Lib.hid hRa
        have HRb := Lib.hid hRb
        have HB := Lib.hid hB
        clear hRa hRb hB
        go_wp2_with fail
        refine (popI_any pb gb l.length (l.drop j) _ HRb.out).mono ?_
        rintro e w6 ⟨rfl, hRb, hT⟩
        have hRa := HRa.out.two HRb.out hT (by have := HAB.out; omega) HR5.out.2.2
        have hB := HB.out.trans (hT.below (by have := HAB.out; omega) HGB.out HB.out.size)
        rw [List.tail_drop] at hRb
        have H6 := Lib.hid (And.intro hRa (And.intro hRb hB))
        clear hRa hRb hB hT HRa HRb HB
        generalize topI (l.drop j) = y0
        generalize (!(l.drop j).isEmpty) = y1
        go_wp2
        go_roundw
        case rel => exact ⟨j + 1, by omega, by go_num, H6.out.1, H6.out.2.1, H6.out.2.2⟩
        case measure => simp [intOf]; omega
      · have hjm : j = m := by omega
        subst hjm
        have H6 := Lib.hid (And.intro hRa (And.intro hRb hB))
        have HNE := Lib.hid (HR5.out.2.2)
        clear hRa hRb hB HR5 HB5
        obtain ⟨L, hL⟩ : ∃ L, L = l.drop j := ⟨_, rfl⟩
        rw [← hL] at H6
        have hLl : (L.length : Int) ≤ 60 := by rw [hL]; simp; omega
        clear hL
        go_wp2_with fail
        refine (listI_any pa ga l.length L _ H6.out.1).mono ?_
        rintro e w7 ⟨rfl, hS1, hb7⟩
        have H7 := Lib.hid (And.intro (Ints.ofSits hS1 (by omega)) (And.intro (H6.out.1.below hb7) (And.intro (H6.out.2.1.below hb7) (H6.out.2.2.trans (hb7.mono H6.out.2.2.size)))))
        clear hS1 hb7 H6
        go_wp2_with fail
        refine (listI_any pb gb l.length L _ H7.out.2.2.1).mono ?_
        rintro e w8 ⟨rfl, hS2, hb8⟩
        have H8 := Lib.hid (And.intro (H7.out.1.below hb8) (And.intro (Ints.ofSits hS2 (by omega)) (And.intro (H7.out.2.1.below hb8) (H7.out.2.2.2.trans (hb8.mono H7.out.2.2.2.size)))))
        clear hS2 hb8 H7
        go_wp2_with fail
        refine (sameInts_yes _ _ L _ H8.out.1 H8.out.2.1).mono ?_
        rintro e w9 ⟨rfl, n9, rfl⟩
        have H9 := Lib.hid (And.intro (H8.out.2.2.1.drewN n9) (below_drewN H8.out.2.2.2 n9))
        clear H8
        go_wp2_with fail
        refine (listI_any pa ga l.length L _ H9.out.1).mono ?_
        rintro e w10 ⟨rfl, hS, hb⟩
        have hW := Ints.ofSits hS (by omega)
        have H10 := Lib.hid (And.intro hW (And.intro (H9.out.1.below hb) (H9.out.2.trans (hb.mono H9.out.2.size))))
        have HS10 := Lib.hid (And.intro hS (And.intro HGA.out HAB.out))
        have HLT := Lib.hid (H9.out.1.lt)
        generalize (w8.drewN n9).heap.size = bw at H10 HS10 HLT ⊢
        clear hS hb H9 hW
        go_wp2_with fail
        refine (setI_any pa ga l.length L k x _ H10.out.2.1).mono ?_
        rintro e w11 ⟨rfl, hR, hT⟩
        have hS := HS10.out.1.two hT (by have := HLT.out; omega) (by have := HLT.out; omega)
        have H11 := Lib.hid (And.intro hS (And.intro hR (H10.out.2.2.trans (hT.below HAB.out.1 HGA.out H10.out.2.2.size))))
        clear hS hR hT H10 HS10 HLT
        obtain ⟨N, hN⟩ : ∃ N, N = setAt L k x := ⟨_, rfl⟩
        have hNl : N.length = L.length := by rw [hN, setAt_length]
        have hNg : ∀ i (hi : i < L.length), N[i] = if (i : Int) = k then x else L[i] := fun i hi => by
          have := setAt_get L k x i hi
          subst hN
          exact this
        rw [← hN] at H11
        clear hN
        go_wp2_with fail
        refine (listI_any pa ga l.length N _ H11.out.2.1).mono ?_
        rintro e w12 ⟨rfl, hS2, hb⟩
        have hI1 := Ints.ofSits (H11.out.1.below' hb) (by omega)
        have hI2 := Ints.ofSits hS2 (by omega)
        have HB12 := Lib.hid (H11.out.2.2.trans (hb.mono H11.out.2.2.size))
        obtain ⟨A1, c1, e1, h11, h12, h13⟩ := hI1.one_
        obtain ⟨A2, c2, e2, h21, h22, h23⟩ := hI2.one_
        rw [e1, e2, hNl]
        rw [hNl] at h21
        have H13 := Lib.hid h13
        have H23 := Lib.hid h23
        have HN := Lib.hid (And.intro hNl hNg)
        clear hI1 hI2 e1 e2 h13 h23 hNg hb hS2 H11
        go_wp2_with fail
        go_loopw [16] (fun i wr => ∃ j : Nat, j ≤ L.length ∧ i = .int .i64 j ∧ ∃ n, wr = w12.drewN n) (fun i _ => L.length - (intOf i).toNat)
        case atStart => exact ⟨0, by omega, rfl, 0, rfl⟩
        case round =>
          obtain ⟨q, hq, rfl, nq, rfl⟩ := hrel
          by_cases hlt : q < L.length
          · obtain ⟨b, o, rfl, _, hc1⟩ := H13.out q hlt
            obtain ⟨b', o', rfl, _, hc2⟩ := H23.out q (by rw [hNl]; exact hlt)
            rw [HN.out.2 q hlt] at hc2
            by_cases hqk : (q : Int) = k
            · rw [if_pos hqk] at hc2
              have t1 : ((q : Int) != k) = false := by simp [hqk]
              have t2 : ((q : Int) == k) = true := by simp [hqk]
              clear hqk
              go_wp2
              go_quiet (fail)
              go_wp2
              go_roundw
              case rel => exact ⟨q + 1, by omega, by go_num, _, rfl⟩
              case measure => simp [intOf]; omega
            · rw [if_neg hqk] at hc2
              have t1 : ((q : Int) != k) = true := by simp [hqk]
              have t2 : ((q : Int) == k) = false := by simp [hqk]
              clear hqk
              go_wp2
              go_quiet (fail)
              go_wp2
              go_roundw
              case rel => exact ⟨q + 1, by omega, by go_num, _, rfl⟩
              case measure => simp [intOf]; omega
          · have hqL : q = L.length := by omega
            subst hqL
            have hin : inR L k = (decide (0 ≤ k) && decide (k < (L.length : Int))) := rfl
            cases t1 : decide (0 ≤ k) <;> cases t2 : decide (k < (L.length : Int))
            all_goals
              rw [t1, t2] at hin
              simp only [Bool.and_false, Bool.false_and, Bool.and_true] at hin
              rw [hin]
              go_wp2_with (go_at_call 10; refine (alive_any _).mono ?_; rintro e w' ⟨rfl, hb⟩)
              go_ret
              exact ⟨rfl, (below_drewN HB12.out nq).trans (hb.mono (below_drewN HB12.out nq).size)⟩
  · have d1 : decide (60 < (l.length : Int)) = true := by simp; omega
    clear h3
    go_enter Try.func8, Try.ntmps8
    go_wp2_with (go_at_call 10; refine (alive_any _).mono ?_; rintro e w' ⟨rfl, hb⟩)
    go_ret
    exact ⟨rfl, hb⟩

set_option maxRecDepth 100000 in
theorem ringDrops_lifted (os : Os) (started : os.Started) (H : Type) (enc : TypeId × Value → H) :
    ReturnsInHanded {} Try.checked os 8 .any (Rows.ringDropsSpec.pre6 enc Try.prog Try.f8 Rows.ringDropsRow.domain false) (Rows.ringDropsSpec.post enc Try.prog Try.f8 false true false false) := by
  refine returnsInHanded_of_change (C := Try.checked) own started (by kernel_rfl) Try.func8
    (ChangeSpec.witness6 (enc := enc) (C := Try.checked) false ⟨#[], #[.slice none 0 0, .int .i64 0, .int .i64 0, .int .i64 0], []⟩ 8 (by kernel_rfl) (by kernel_rfl) (by kernel_rfl) (by kernel_rfl)) ?_
  intro W base args ds gs before hval0 hW _ _
  have hval : ∀ (j : Nat) t v, Try.f8.params[j]? = some t → args[j]? = some v → Value.okWide Try.prog W .any base t v := hval0
  have hW' := hW
  obtain ⟨p, q, hA0, hV, rfl, hfz, hnd⟩ := hW
  have hA : DataW.TrodAll enc Try.prog W 0 (fun _ => true) true Try.f8.params.toList args.toList ds p := hA0
  rw [Try.params8] at hA hval
  obtain ⟨v0, vs0, d0, ds0, p0, q0, hargs, rfl, rfl, h0, r0⟩ := trodAll_cons hA
  obtain ⟨v1, vs1, d1, ds1, p1, q1, rfl, rfl, rfl, h1, r1⟩ := trodAll_cons r0
  obtain ⟨v2, vs2, d2, ds2, p2, q2, rfl, rfl, rfl, h2, r2⟩ := trodAll_cons r1
  obtain ⟨v3, vs3, d3, ds3, p3, q3, rfl, rfl, rfl, h3, r3⟩ := trodAll_cons r2
  obtain ⟨rfl, rfl, rfl⟩ := trodAll_nil r3
  obtain rfl : args = #[v0, v1, v2, v3] := by cases args; simp_all
  obtain ⟨rfl, rfl⟩ := trodVars_none hV
  have k0 := h0
  have lt0 : ∀ x ∈ p0, x.block < W.heap.size := by obtain ⟨m, hm⟩ := k0; exact DataW.trod_lt m _ _ _ hm
  have k1 := h1
  have lt1 : ∀ x ∈ p1, x.block < W.heap.size := by obtain ⟨m, hm⟩ := k1; exact DataW.trod_lt m _ _ _ hm
  have k2 := h2
  have lt2 : ∀ x ∈ p2, x.block < W.heap.size := by obtain ⟨m, hm⟩ := k2; exact DataW.trod_lt m _ _ _ hm
  have k3 := h3
  have lt3 : ∀ x ∈ p3, x.block < W.heap.size := by obtain ⟨m, hm⟩ := k3; exact DataW.trod_lt m _ _ _ hm
  obtain ⟨a0, w0⟩ := ints_open (hval 0 40 v0 rfl rfl) k0
  obtain ⟨a1, rfl, rfl, rfl, w1⟩ := open_int Try.underlying3 (hval 1 3 v1 rfl rfl) h1
  obtain ⟨a2, rfl, rfl, rfl, w2⟩ := open_int Try.underlying3 (hval 2 3 v2 rfl rfl) h2
  obtain ⟨a3, rfl, rfl, rfl, w3⟩ := open_int Try.underlying3 (hval 3 3 v3 rfl rfl) h3
  clear hA0 hval0
  refine (ringDrops_walk v0 a0 a1 w1 a2 w2 a3 w3 W w0).mono fun e W' ⟨he, bel⟩ => ?_
  subst he
  exact ⟨_, rfl, _, _, _, [], _, [], hW', trodAll_mk1 (shut_bool Try.underlying4 _), (trodAll_cons_mk (Below.trod laidOut (by kernel_rfl) (of_decide_eq_true (by kernel_rfl)) k0 bel lt0) (trodAll_cons_mk (Below.trod laidOut (by kernel_rfl) (of_decide_eq_true (by kernel_rfl)) k1 bel lt1) (trodAll_cons_mk (Below.trod laidOut (by kernel_rfl) (of_decide_eq_true (by kernel_rfl)) k2 bel lt2) (trodAll_cons_mk (Below.trod laidOut (by kernel_rfl) (of_decide_eq_true (by kernel_rfl)) k3 bel lt3) trodAll_mk0)))), rfl, bel.frame _, fun h => by cases h⟩

theorem ringDrops_said : Rows.RingDropsSaid :=
  OpenClaim.holds_of_wide 8 Try.f8 rfl rfl rfl rfl rfl rfl rfl ⟨rfl, rfl, rfl, rfl, rfl⟩ rfl rfl rfl rfl rfl (by kernel_rfl) Try.func8 (by kernel_rfl)
    (of_decide_eq_true (by kernel_rfl)) (by unfold Func.isWrapper; first | (rw [if_pos (by decide +kernel)]; kernel_rfl) | (rw [if_neg (by decide +kernel)]; exact ⟨rfl, rfl⟩))
    (fun os started H enc _ => ringDrops_lifted os started H enc)
#print axioms ringDrops_said
end Go.Proofs.Ytffgdmdliddlpaa
