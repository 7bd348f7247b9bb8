/- The statement SpanTells of package span: every spans, alone, two by two, and as sets; what is handed in stays; lists kept, marked, grown; it holds of all lists of spans and every two ints. -/
import Derived.Test.YtehnobcjoaclcaaGreatStG
import Derived.Test.YtehnobcjoaclcaaGreatBase
import Derived.Deep.DeepCutAuto
import Derived.Deep.CutBlock
import Derived.OpenShut
import Derived.ChangeOld
namespace Go.Proofs.YtehnobcjoaclcaaGreat
open Go Go.RowKit Go.ChangeShapes Go.WideShapes Go.ChangeAt SpanP
set_option maxRecDepth 1000000
set_option maxHeartbeats 8000000
set_option linter.unusedSimpArgs false

theorem spanTells_walk (u0 : Value) (a : List S) (u1 : Value) (b : List S) (c : Int) (_wc : (Lit.int .i64 c).wf = true) (most : Int) (_wm : (Lit.int .i64 most).wf = true) (w : World)
    (h0 : (∀ s ∈ a, (-9223372036854775808 ≤ s.1 ∧ s.1 ≤ 9223372036854775807) ∧ (-9223372036854775808 ≤ s.2 ∧ s.2 ≤ 9223372036854775807)) ∧ Spans w u0 a)
    (h1 : (∀ s ∈ b, (-9223372036854775808 ≤ s.1 ∧ s.1 ≤ 9223372036854775807) ∧ (-9223372036854775808 ≤ s.2 ∧ s.2 ≤ 9223372036854775807)) ∧ Spans w u1 b) :
    Calls Tryz.prog 3 #[u0, u1, .int .i64 c, .int .i64 most] w fun e w' => e = .returned (.bool true) ∧ Below w.heap.size w w' := by
  clear _wc _wm
  obtain ⟨g0, s0⟩ := h0
  obtain ⟨g1, s1⟩ := h1
  have LA := Lib.hid (Lim.of a g0)
  have LB := Lib.hid (Lim.of b g1)
  have SA := Lib.hid s0
  have SB := Lib.hid s1
  clear g0 g1
  obtain ⟨A0, c0, rfl, m0, n0, -⟩ := s0.read
  obtain ⟨A1, c1, rfl, m1, n1, -⟩ := s1.read
  clear s0 s1
  by_cases hl : a.length ≤ 40 ∧ b.length ≤ 40
  · have d0 : decide ((a.length : Int) > 40) = false := decide_eq_false (by omega)
    have d1 : decide ((b.length : Int) > 40) = false := decide_eq_false (by omega)
    have d2 : decide (40 < (a.length : Int)) = false := decide_eq_false (by omega)
    have d3 : decide (40 < (b.length : Int)) = false := decide_eq_false (by omega)
    have HL := Lib.hid hl
    obtain ⟨wb, hwb⟩ : ∃ wb, wb = w.alloc (.cells (bookC fun _ => .slice none 0 0) 41) := ⟨_, rfl⟩
    have hbw : Below w.heap.size w wb := hwb ▸ (Below.refl _ _).alloc (Nat.le_refl _) _
    have hbook : ∃ N, Bk wb w.heap.size w.heap.size 0 0 N := ⟨fun _ => True, _, _, _, _, _, _, _, _, _, _, bookSI_new (by rw [hwb]; exact Sits.fresh w _ _) (Nat.le_refl _), rfl, rfl, fun _ _ => trivial⟩
    have HONE : Hid (∀ (a0 : Act) (wx : World) (Q : Exit → Act → World → Prop), wx = w.alloc (.cells (bookC fun _ => .slice none 0 0) 41) → Head0 (.slice A0 a.length c0) (.slice A1 b.length c1) (.int .i64 c) (.int .i64 most) (.pointer (some ⟨w.heap.size, 0, none⟩)) (.int .i64 (0 : Nat)) a0 →
        (∀ a' w', Head0 (.slice A0 a.length c0) (.slice A1 b.length c1) (.int .i64 c) (.int .i64 most) (.pointer (some ⟨w.heap.size, 0, none⟩)) (.int .i64 a.length) a' → Below wb.heap.size wb w' → Q (.exit 0) a' w') → Code.wp Tryz.prog (.loop body1L) Q a0 wx) := Lib.hid fun a0 wx Q hx hH hQ =>
      ones_loop _ _ a0 wx A0 A1 c0 c1 a b c hl.1 hl.2 (SA.out.below (by rw [hx, ← hwb]; exact hbw)) (SB.out.below (by rw [hx, ← hwb]; exact hbw)) LA.out Q hH (fun a' w' h1 h2 => hQ a' w' h1 (by rw [hwb, ← hx]; exact h2))
    have HTWO : Hid (∀ (a0 : Act) (W : World) (Q : Exit → Act → World → Prop), Below wb.heap.size wb W → Keep8 (.slice A0 a.length c0) (.slice A1 b.length c1) (.int .i64 most) (.pointer (some ⟨w.heap.size, 0, none⟩)) (.int .i64 (0 : Nat)) a0 →
        (∀ a' W' mm, Keep8 (.slice A0 a.length c0) (.slice A1 b.length c1) (.int .i64 mm) (.pointer (some ⟨w.heap.size, 0, none⟩)) (.int .i64 (2 : Nat)) a' → (∃ N, Bk W' w.heap.size w.heap.size 8 2 N) → Below w.heap.size w W' → Q (.exit 4) a' W') → Code.wp Tryz.prog (.loop body3L) Q a0 W) := Lib.hid fun a0 W Q hb hK hQ =>
      three_loop a0 w W w.heap.size _ _ a b most hl.1 hl.2 SA.out SB.out LA.out LB.out (hbw.trans (hb.mono hbw.size)) (hbook.imp fun _ h => h.below hb) Q hK hQ
    clear hbook hbw hwb hl
    go_enter Tryz.func3, Tryz.ntmps3
    go_wp2_with fail
    refine HONE.out _ _ _ rfl ⟨rfl, rfl, rfl, rfl, rfl, rfl, rfl, rfl⟩ ?_
    rintro a' w' ⟨hd, hsz, g0, g1, g2, g3, g9, g10⟩ hB
    have HB := Lib.hid hB
    clear hB HONE
    rw [open_act a' hd hsz]
    generalize hf : (fun n => a'.tmps.getD n undef) = f
    have f0 : f 0 = .slice A0 a.length c0 := by rw [← hf]; exact g0
    have f1 : f 1 = .slice A1 b.length c1 := by rw [← hf]; exact g1
    have f3 : f 3 = .int .i64 most := by rw [← hf]; exact g3
    have f9 : f 9 = .pointer (some ⟨w.heap.size, 0, none⟩) := by rw [← hf]; exact g9
    clear hf g0 g1 g2 g3 g9 g10 hd hsz
    unfold frame
    rw [f0, f1, f3, f9]
    clear f0 f1 f3 f9
    simp only [Exit.inBlock, Exit.then, ↓reduceIte]
    go_wp2_with fail
    refine HTWO.out _ _ _ HB.out ⟨rfl, rfl, rfl, rfl, rfl, rfl, rfl⟩ ?_
    rintro a' w' mm ⟨hd, hsz, g0, g1, g3, g9, g18⟩ hBK hBW
    have HK2 := Lib.hid hBK
    have HW := Lib.hid hBW
    clear hBK hBW HTWO HB
    rw [open_act a' hd hsz]
    generalize hf : (fun n => a'.tmps.getD n undef) = f
    have g9' : f 9 = .pointer (some ⟨w.heap.size, 0, none⟩) := by rw [← hf]; exact g9
    clear hf g0 g1 g3 g9 g18 hd hsz
    unfold frame
    rw [g9']
    clear g9'
    simp only [Exit.inBlock, Exit.then, ↓reduceIte]
    go_wp2_with fail
    refine (alive6_any _).mono ?_
    rintro e w5 ⟨rfl, hb⟩
    have HK5 : Hid (∃ N, Bk w5 w.heap.size w.heap.size 8 2 N) := Lib.hid (HK2.out.imp fun _ h => h.below hb)
    have HW5 := Lib.hid (HW.out.trans (hb.mono HW.out.size))
    clear hb
    obtain ⟨N, hN⟩ := HK5.out
    have HAP := Lib.hid (bk_apart hN HW5.out.size)
    clear hN
    go_wp2_with fail
    refine HAP.out.mono ?_
    rintro e w6 ⟨rfl, hb⟩
    have HW6 := Lib.hid (HW5.out.trans hb)
    clear hb
    go_wp2
    go_ret
    exact ⟨rfl, HW6.out⟩
  · clear LA LB SA SB
    by_cases ka : a.length ≤ 40
    · have d0 : decide ((a.length : Int) > 40) = false := decide_eq_false (by omega)
      have d1 : decide ((b.length : Int) > 40) = true := decide_eq_true (by omega)
      have d2 : decide (40 < (a.length : Int)) = false := decide_eq_false (by omega)
      have d3 : decide (40 < (b.length : Int)) = true := decide_eq_true (by omega)
      go_enter Tryz.func3, Tryz.ntmps3
      go_wp2_with fail
      refine (alive6_any w).mono ?_
      rintro e w4 ⟨rfl, hb⟩
      go_wp2
      go_ret
      exact ⟨rfl, hb⟩
    · have d0 : decide ((a.length : Int) > 40) = true := decide_eq_true (by omega)
      have d2 : decide (40 < (a.length : Int)) = true := decide_eq_true (by omega)
      go_enter Tryz.func3, Tryz.ntmps3
      go_wp2_with fail
      refine (alive6_any w).mono ?_
      rintro e w4 ⟨rfl, hb⟩
      go_wp2
      go_ret
      exact ⟨rfl, hb⟩
set_option maxRecDepth 100000 in
theorem spanTells_lifted (os : Os) (started : os.Started) (H : Type) (enc : TypeId × Value → H) :
    ReturnsInHanded {} Tryz.checked os 3 .any (Rows.spanTellsSpec.pre6 enc Tryz.prog Tryz.f3 Rows.spanTellsRow.domain false) (Rows.spanTellsSpec.post enc Tryz.prog Tryz.f3 false true false false) := by
  refine returnsInHanded_of_change (C := Tryz.checked) own started (by kernel_rfl) Tryz.func3
    (ChangeSpec.witness6 (enc := enc) (C := Tryz.checked) false ⟨#[], #[.slice none 0 0, .slice none 0 0, .int .i64 0, .int .i64 0], []⟩ 8 (by kernel_rfl) (by kernel_rfl) (by kernel_rfl) (by kernel_rfl)) ?_
  intro W base args ds gs before hval0 hW _ _
  have hval : ∀ (j : Nat) t v, Tryz.f3.params[j]? = some t → args[j]? = some v → Value.okWide Tryz.prog W .any base t v := hval0
  have hW' := hW
  obtain ⟨p, q, hA0, hV, rfl, hfz, hnd⟩ := hW
  have hA : DataW.TrodAll enc Tryz.prog W 0 (fun _ => true) true Tryz.f3.params.toList args.toList ds p := hA0
  rw [Tryz.params3] at hA hval
  obtain ⟨v0, vs0, d0, ds0, p0, q0, hargs, rfl, rfl, h0, r0⟩ := trodAll_cons hA
  obtain ⟨v1, vs1, d1, ds1, p1, q1, rfl, rfl, rfl, h1, r1⟩ := trodAll_cons r0
  obtain ⟨v2, vs2, d2, ds2, p2, q2, rfl, rfl, rfl, h2, r2⟩ := trodAll_cons r1
  obtain ⟨v3, vs3, d3, ds3, p3, q3, rfl, rfl, rfl, h3, r3⟩ := trodAll_cons r2
  obtain ⟨rfl, rfl, rfl⟩ := trodAll_nil r3
  obtain rfl : args = #[v0, v1, v2, v3] := by cases args; simp_all
  obtain ⟨rfl, rfl⟩ := trodVars_none hV
  have k0 := h0
  have lt0 : ∀ x ∈ p0, x.block < W.heap.size := by obtain ⟨m, hm⟩ := k0; exact DataW.trod_lt m _ _ _ hm
  have k1 := h1
  have lt1 : ∀ x ∈ p1, x.block < W.heap.size := by obtain ⟨m, hm⟩ := k1; exact DataW.trod_lt m _ _ _ hm
  have k2 := h2
  have lt2 : ∀ x ∈ p2, x.block < W.heap.size := by obtain ⟨m, hm⟩ := k2; exact DataW.trod_lt m _ _ _ hm
  have k3 := h3
  have lt3 : ∀ x ∈ p3, x.block < W.heap.size := by obtain ⟨m, hm⟩ := k3; exact DataW.trod_lt m _ _ _ hm
  obtain ⟨a0, w0⟩ := spans_open (hval 0 22 v0 rfl rfl) k0
  obtain ⟨a1, w1⟩ := spans_open (hval 1 22 v1 rfl rfl) k1
  obtain ⟨a2, rfl, rfl, rfl, w2⟩ := open_int Tryz.underlying3 (hval 2 3 v2 rfl rfl) h2
  obtain ⟨a3, rfl, rfl, rfl, w3⟩ := open_int Tryz.underlying3 (hval 3 3 v3 rfl rfl) h3
  clear hA0 hval0
  refine (spanTells_walk v0 a0 v1 a1 a2 w2 a3 w3 W w0 w1).mono fun e W' ⟨he, bel⟩ => ?_
  subst he
  exact ⟨_, rfl, _, _, _, [], _, [], hW', trodAll_mk1 (shut_bool Tryz.underlying4 _), (trodAll_cons_mk (Below.trod laidOut (by kernel_rfl) (of_decide_eq_true (by kernel_rfl)) k0 bel lt0) (trodAll_cons_mk (Below.trod laidOut (by kernel_rfl) (of_decide_eq_true (by kernel_rfl)) k1 bel lt1) (trodAll_cons_mk (Below.trod laidOut (by kernel_rfl) (of_decide_eq_true (by kernel_rfl)) k2 bel lt2) (trodAll_cons_mk (Below.trod laidOut (by kernel_rfl) (of_decide_eq_true (by kernel_rfl)) k3 bel lt3) trodAll_mk0)))), rfl, bel.frame _, fun h => by cases h⟩

theorem spanTells_said : Rows.SpanTellsSaid :=
  OpenClaim.holds_of_wide 3 Tryz.f3 rfl rfl rfl rfl rfl rfl rfl ⟨rfl, rfl, rfl, rfl, rfl⟩ rfl rfl rfl rfl rfl (by kernel_rfl) Tryz.func3 (by kernel_rfl)
    (of_decide_eq_true (by kernel_rfl)) (by unfold Func.isWrapper; first | (rw [if_pos (by decide +kernel)]; kernel_rfl) | (rw [if_neg (by decide +kernel)]; exact ⟨rfl, rfl⟩))
    (fun os started H enc _ => spanTells_lifted os started H enc)
end Go.Proofs.YtehnobcjoaclcaaGreat
