/- The statement SessOnce of package sess: whatever is lost, doubled and moved, of one life to one life each message is told at most once, in order, without a gap, and in a calm behind it all that waits is told, and then nothing is sent any more; it holds of every list of steps. -/
import Derived.Test.YtbpcbdlmkoajdaaSlwH
import Derived.Test.YtbpcbdlmkoajdaaBase
import Derived.Deep.DeepCutAuto
import Derived.Deep.CutBlock
import Derived.OpenShut
import Derived.ChangeOld
namespace Go.Proofs.Ytbpcbdlmkoajdaa
open Go Go.RowKit Go.ChangeShapes Go.WideShapes Go.ChangeAt SesP
set_option maxRecDepth 1000000
set_option maxHeartbeats 16000000
set_option linter.unusedSimpArgs false

theorem ways_open {H : Type} {enc : TypeId × Value → H} {w : World} {base : Nat} {r : Reach} {v : Value} {d : DataW H} {p : List MemPlace} (hv : Value.okWide Try.prog w r base 22 v)
    (h : DataW.Trod enc Try.prog w 0 (fun _ => true) true 22 v d p) : ∃ l : List Wy, (∀ x ∈ l, WyIn x) ∧ Steps15 w v l :=
  slice_open Try.underlying22 (by kernel_rfl) (by omega) (fun cs n sp held x ht hl => by
    obtain ⟨xs, m, _, _, _, hxl, hf⟩ := DataW.trod_struct Try.underlying29 ht
    match cs, hl, hf with
    | [c0, c1, c2], _, hf =>
      have k3 : Try.prog.cellsOf 3 = 1 := by kernel_rfl
      have k9 : Try.prog.cellsOf 9 = 1 := by kernel_rfl
      have f0 := hf 0 _ rfl
      have f1 := hf 1 _ rfl
      have f2 := hf 2 _ rfl
      simp [k3, k9] at f0 f1 f2
      have hx3 : xs.length = 3 := hxl
      obtain ⟨n0, e0, _, w0⟩ := DataW.trod_int Try.underlying3 (f0.trans (List.getElem?_eq_getElem (by omega)))
      obtain ⟨n1, e1, _, w1⟩ := DataW.trod_int Try.underlying3 (f1.trans (List.getElem?_eq_getElem (by omega)))
      obtain ⟨s, e2, _, hs⟩ := DataW.trod_string Try.underlying9 (f2.trans (List.getElem?_eq_getElem (by omega)))
      simp only [List.cons.injEq, and_true] at e0 e1 e2
      subst e0 e1 e2
      have b0 := bounds_i64 w0
      have b1 := bounds_i64 w1
      have hm : maxLen = 9223372036854775807 := by decide
      refine ⟨⟨n0, n1, s.data.toList⟩, ⟨⟨by simp only; omega, by simp only; omega⟩, ⟨by simp only; omega, by simp only; omega⟩, ?_⟩, by simp only [encY]; rw [str_of]⟩
      simp only
      rw [list_size]
      omega) hv h
theorem sessOnce_walk (v : Value) (l : List Wy) (w : World) (hv : (∀ x ∈ l, WyIn x) ∧ Steps15 w v l) :
    Calls Try.prog 3 #[v] w fun e w' => e = .returned (.bool true) ∧ Below w.heap.size w w' := by
  obtain ⟨hok, A, cap, rfl, h1, h2, h3⟩ := hv
  have hlen : (l.length : Int) ≤ 9223372036854775807 := by omega
  by_cases hg : 150 < l.length
  · have d2 : decide (150 < (l.length : Int)) = true := decide_eq_true (by omega)
    have HA := Lib.hid (alive15_any w)
    clear h3 hok
    go_enter Try.func3, Try.ntmps3
    go_wp2_with fail
    refine HA.out.mono ?_
    rintro e w4 ⟨rfl, hb4⟩
    go_wp2
    go_ret
    exact ⟨rfl, hb4⟩
  have d2 : decide (150 < (l.length : Int)) = false := decide_eq_false (by omega)
  have H3 := Lib.hid h3
  have HOK := Lib.hid hok
  have HL : Hid (l.length ≤ 150) := Lib.hid (by omega)
  have HNA := Lib.hid (sesNew_any 1 2 1)
  have HNB := Lib.hid (sesNew_any 2 1 1)
  clear h3 hok hg
  go_enter Try.func3, Try.ntmps3
  go_wp2_with fail
  refine (HNA.out w).mono ?_
  rintro e w1 ⟨ga, rfl, h1'⟩
  have H1 := Lib.hid h1'
  clear h1'
  go_wp2_with fail
  refine (HNB.out w1).mono ?_
  rintro e w2 ⟨gb, rfl, h2'⟩
  have h7 := H1.out.with_ (holdSN _ _ _) h2'
  have hn := has_none (e := 9) (size := 1) (w := w2)
  have hh := h7.with_ ((holdSN _ _ _).both (holdSN _ _ _)) ((has_none (e := 34) (size := 8) (w := w2)).with_ (holdRwX _ _ _ _ _) ((hn.with_ (holdRwX _ _ _ _ _) hn).with_ ((holdRwX _ _ _ _ _).both (holdRwX _ _ _ _ _)) (hn.with_ (holdRwX _ _ _ _ _) hn)))
  have H0 : Hid (Has (St.hold ⟨ga, gb, 0, newS 1 2 1, newS 2 1 1, .slice none 0 0, [], .slice none 0 0, [], .slice none 0 0, [], .slice none 0 0, [], .slice none 0 0, []⟩) w w2) := Lib.hid hh
  clear h2' h7 hn hh H1 HNA HNB
  go_wp2_with fail
  refine loop_act w w2 ⟨ga, gb, 0, newS 1 2 1, newS 2 1 1, .slice none 0 0, [], .slice none 0 0, [], .slice none 0 0, [], .slice none 0 0, [], .slice none 0 0, []⟩ 1 A cap l HL.out H3.out HOK.out H0.out (once_new 1 (by decide) (by decide) _ _ _ _ _ _ _ _) (onceN_new _ _ _ _ _ _ _ _ _ _ _ (Nat.le_refl _)) (by decide) undef _ _ ⟨rfl, rfl, rfl, rfl, rfl, rfl, rfl, rfl, rfl, rfl, rfl, rfl, rfl⟩ ?_ ?_
  · intro a' w' s L x y hk hA hO hN hxy hL
    have hCalm := Calm.start hO hN (by have := HL.out; omega)
    have HC := Lib.hid hCalm
    have HA := Lib.hid hA
    clear hA hO hN hxy hL hCalm H0
    rw [open_act a' hk.d hk.z]
    generalize hf : (fun n => a'.tmps.getD n undef) = f
    have e0 : f 0 = .slice A l.length cap := by rw [← hf]; exact hk.s0
    have hkf : KeepF f L s := by rw [← hf]; exact hk.f
    clear hf hk
    have E6 := Lib.hid hkf.s6
    have E7 := Lib.hid hkf.s7
    have E8 := Lib.hid hkf.s8
    have E9 := Lib.hid hkf.s9
    have E10 := Lib.hid hkf.s10
    have h3 := hkf.s3
    have h4 := hkf.s4
    have h5 := hkf.s5
    unfold frame
    rw [e0, h3, h4, h5]
    clear e0 h3 h4 h5 hkf
    simp only [Exit.inBlock, Exit.then, ↓reduceIte]
    go_wp2_with fail
    refine calm_act w w' s L HA.out HC.out (.slice A l.length cap) (f 11) _ _ ⟨rfl, rfl, rfl, rfl, rfl, rfl, E6.out, E7.out, E8.out, E9.out, E10.out, rfl, rfl⟩ ?_
    intro a2 w3 s2 hk2 hA2 hC2
    clear E6 E7 E8 E9 E10 HA HC
    obtain ⟨cW1, cW2, cg, ch, ct1, ct2, -⟩ := hC2.last
    have hI := st_with hA2
    obtain ⟨-, ⟨As, cs, es⟩, ⟨Ag, cg', eg⟩, ⟨Ad, cd, ed⟩, ⟨Ah, ch', eh⟩⟩ := st_forms hI
    obtain ⟨-, ⟨_, rs⟩, ⟨_, rg⟩, ⟨_, rd⟩, ⟨_, rh⟩⟩ := st_rows hI
    have ts : Texts w3 (.slice As s2.sent.length cs) s2.sent := es ▸ TRow.texts rs.1
    have tg : Texts w3 (.slice Ag s2.got.length cg') s2.got := eg ▸ TRow.texts rg.1
    have td : Texts w3 (.slice Ad s2.down.length cd) s2.down := ed ▸ TRow.texts rd.1
    have th : Texts w3 (.slice Ah s2.heard.length ch') s2.heard := eh ▸ TRow.texts rh.1
    have hls := hC2.ls
    rw [open_act a2 hk2.d hk2.z]
    generalize hf : (fun n => a2.tmps.getD n undef) = f2
    have hkf : KeepF f2 L s2 := by rw [← hf]; exact hk2.f
    clear hf hk2
    rw [cg] at tg
    rw [ch] at th
    have g3 := hkf.s3
    have g4 := hkf.s4
    have g7 := hkf.s7.trans es
    have g8 := hkf.s8.trans eg
    have g9 := hkf.s9.trans ed
    have g10 := hkf.s10.trans eh
    have HTX := Lib.hid (And.intro ts (And.intro tg (And.intro td th)))
    have HCT := Lib.hid (And.intro cW1 (And.intro cW2 (And.intro ct1 ct2)))
    have hgl : s2.got.length = s2.sent.length := by rw [cg]
    have hhl : s2.heard.length = s2.down.length := by rw [ch]
    rw [hgl] at g8
    rw [hhl] at g10
    have hsl : (s2.sent.length : Int) ≤ 150 := by omega
    have hdl : (s2.down.length : Int) ≤ 150 := by omega
    have HI := Lib.hid hI
    clear hA2 hC2 hI es eg ed eh rs rg rd rh ts tg td th hkf cg ch cW1 cW2 ct1 ct2 hgl hhl hls
    unfold frame
    rw [g3, g4, g7, g8, g9, g10]
    clear g3 g4 g7 g8 g9 g10
    simp only [Exit.inBlock, Exit.then, ↓reduceIte]
    go_wp2_with fail
    refine (alive15_any w3).mono ?_
    rintro e w4 ⟨rfl, hb4⟩
    have HI4 := Lib.hid (HI.out.down (s2.hold_ok.both (holdRwX _ _ _ _ _)) hb4)
    have HS1 := Lib.hid (sameTexts_yes _ _ s2.sent w4 (HTX.out.2.1.below hb4) (HTX.out.1.below hb4))
    have HTX4 := Lib.hid (And.intro (HTX.out.2.2.1.below hb4) (HTX.out.2.2.2.below hb4))
    clear hb4 HI HTX
    go_wp2_with fail
    refine HS1.out.mono ?_
    rintro e w5 ⟨rfl, n5, rfl⟩
    have hb5 := below_drewN (Below.refl w4.heap.size w4) n5
    have HS2 := Lib.hid (sameTexts_yes _ _ s2.down (w4.drewN n5) (HTX4.out.2.below hb5) (HTX4.out.1.below hb5))
    clear hb5 HS1
    go_wp2_with fail
    refine HS2.out.mono ?_
    rintro e w6 ⟨rfl, n6, rfl⟩
    have HI6 := Lib.hid (HI4.out.down (s2.hold_ok.both (holdRwX _ _ _ _ _)) (below_drewN (Below.refl w4.heap.size w4) (n5 + n6)))
    have hwa := st_waitsA HI6.out
    have hwb := st_waitsB HI6.out
    rw [HCT.out.1] at hwa
    rw [HCT.out.2.1] at hwb
    have HWA := Lib.hid hwa
    have HWB := Lib.hid hwb
    clear hwa hwb HS2 HI4
    go_wp2_with fail
    refine HWA.out.mono ?_
    rintro e w7 ⟨rfl, rfl⟩
    go_wp2_with fail
    refine HWB.out.mono ?_
    rintro e w7 ⟨rfl, rfl⟩
    go_wp2_with fail
    refine (st_tickA (holdRwX _ _ _ _ _) HI6.out).mono ?_
    rintro e w8 ⟨v8, rfl, hr8, h8⟩
    obtain ⟨B8, b8, e8, -⟩ := frow_at hr8
    rw [HCT.out.2.2.1] at e8
    subst e8
    have H8 := Lib.hid h8
    clear hr8 h8 HWA HWB HI6
    go_wp2_with fail
    refine (st_tickB (holdRwX _ _ _ _ _) H8.out).mono ?_
    rintro e w9 ⟨v9, rfl, hr9, h9⟩
    obtain ⟨B9, b9, e9, -⟩ := frow_at hr9
    have e9' : v9 = .slice B9 ([] : List Frm).length b9 := by rw [e9, show tickF (St.b { s2 with a := tickS s2.a }) = [] from HCT.out.2.2.2]
    subst e9'
    have HB := Lib.hid h9.below
    clear hr9 h9 e9 H8
    go_wp2
    go_ret
    exact ⟨rfl, HB.out⟩
  · intro a' w' hd hsz h2 hb
    have HB := Lib.hid hb
    clear hb H0
    rw [open_act a' hd hsz]
    generalize hf : (fun n => a'.tmps.getD n undef) = f
    have g2 : f 2 = .bool true := by rw [← hf]; exact h2
    clear hf hd hsz h2
    unfold frame
    rw [g2]
    simp only [Exit.inBlock, Exit.then]
    go_ret
    exact ⟨rfl, HB.out⟩

set_option maxRecDepth 100000 in
theorem sessOnce_lifted (os : Os) (started : os.Started) (H : Type) (enc : TypeId × Value → H) :
    ReturnsInHanded {} Try.checked os 3 .any (Rows.sessOnceSpec.pre6 enc Try.prog Try.f3 Rows.sessOnceRow.domain false) (Rows.sessOnceSpec.post enc Try.prog Try.f3 false true false false) := by
  refine returnsInHanded_of_change (C := Try.checked) own started (by kernel_rfl) Try.func3
    (ChangeSpec.witness6 (enc := enc) (C := Try.checked) false ⟨#[], #[.slice none 0 0], []⟩ 8 (by kernel_rfl) (by kernel_rfl) (by kernel_rfl) (by kernel_rfl)) ?_
  intro W base args ds gs before hval0 hW _ _
  have hval : ∀ (j : Nat) t v, Try.f3.params[j]? = some t → args[j]? = some v → Value.okWide Try.prog W .any base t v := hval0
  have hW' := hW
  obtain ⟨p, q, hA0, hV, rfl, hfz, hnd⟩ := hW
  have hA : DataW.TrodAll enc Try.prog W 0 (fun _ => true) true Try.f3.params.toList args.toList ds p := hA0
  rw [Try.params3] at hA hval
  obtain ⟨v0, vs0, d0, ds0, p0, q0, hargs, rfl, rfl, h0, r0⟩ := trodAll_cons hA
  obtain ⟨rfl, rfl, rfl⟩ := trodAll_nil r0
  obtain rfl : args = #[v0] := by cases args; simp_all
  obtain ⟨rfl, rfl⟩ := trodVars_none hV
  have k0 := h0
  have lt0 : ∀ x ∈ p0, x.block < W.heap.size := by obtain ⟨m, hm⟩ := k0; exact DataW.trod_lt m _ _ _ hm
  obtain ⟨a0, w0⟩ := ways_open (hval 0 22 v0 rfl rfl) k0
  clear hA0 hval0
  refine (sessOnce_walk v0 a0 W w0).mono fun e W' ⟨he, bel⟩ => ?_
  subst he
  exact ⟨_, rfl, _, _, _, [], _, [], hW', trodAll_mk1 (shut_bool Try.underlying4 _), (trodAll_cons_mk (Below.trod laidOut (by kernel_rfl) (of_decide_eq_true (by kernel_rfl)) k0 bel lt0) trodAll_mk0), rfl, bel.frame _, fun h => by cases h⟩

theorem sessOnce_said : Rows.SessOnceSaid :=
  OpenClaim.holds_of_wide 3 Try.f3 rfl rfl rfl rfl rfl rfl rfl ⟨rfl, rfl, rfl, rfl, rfl⟩ rfl rfl rfl rfl rfl (by kernel_rfl) Try.func3 (by unfold joinedFacts; simp only [Bool.and_eq_true]; and_intros <;> as_aux_lemma => kernel_rfl)
    (of_decide_eq_true (by kernel_rfl)) (by unfold Func.isWrapper; first | (rw [if_pos (by decide +kernel)]; kernel_rfl) | (rw [if_neg (by decide +kernel)]; exact ⟨rfl, rfl⟩))
    (fun os started H enc _ => sessOnce_lifted os started H enc)
#print axioms sessOnce_said
end Go.Proofs.Ytbpcbdlmkoajdaa
