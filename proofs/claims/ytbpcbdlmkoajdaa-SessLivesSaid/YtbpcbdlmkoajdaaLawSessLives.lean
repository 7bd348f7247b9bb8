/- The statement SessLives of package sess: one end begins anew, again and again, while the other one stays: what it is told of each life is what that life said, in order, without a gap, and nothing of an elder life comes behind a greater one; it holds of every list of steps. -/
import Derived.Test.YtbpcbdlmkoajdaaSmwF
import Derived.Test.YtbpcbdlmkoajdaaSmwH
import Derived.Test.YtbpcbdlmkoajdaaBase
import Derived.Deep.DeepCutAuto
import Derived.Deep.CutBlock
import Derived.OpenShut
import Derived.ChangeOld
namespace Go.Proofs.Ytbpcbdlmkoajdaa
open Go Go.RowKit Go.ChangeShapes Go.WideShapes Go.ChangeAt SesP
set_option maxRecDepth 1000000
set_option maxHeartbeats 16000000
set_option linter.unusedSimpArgs false

theorem ways_open {H : Type} {enc : TypeId × Value → H} {w : World} {base : Nat} {r : Reach} {v : Value} {d : DataW H} {p : List MemPlace} (hv : Value.okWide Try.prog w r base 22 v)
    (h : DataW.Trod enc Try.prog w 0 (fun _ => true) true 22 v d p) : ∃ l : List Wy, (∀ x ∈ l, WyIn x) ∧ Steps15 w v l :=
  slice_open Try.underlying22 (by kernel_rfl) (by omega) (fun cs n sp held x ht hl => by
    obtain ⟨xs, m, _, _, _, hxl, hf⟩ := DataW.trod_struct Try.underlying29 ht
    match cs, hl, hf with
    | [c0, c1, c2], _, hf =>
      have k3 : Try.prog.cellsOf 3 = 1 := by kernel_rfl
      have k9 : Try.prog.cellsOf 9 = 1 := by kernel_rfl
      have f0 := hf 0 _ rfl
      have f1 := hf 1 _ rfl
      have f2 := hf 2 _ rfl
      simp [k3, k9] at f0 f1 f2
      have hx3 : xs.length = 3 := hxl
      obtain ⟨n0, e0, _, w0⟩ := DataW.trod_int Try.underlying3 (f0.trans (List.getElem?_eq_getElem (by omega)))
      obtain ⟨n1, e1, _, w1⟩ := DataW.trod_int Try.underlying3 (f1.trans (List.getElem?_eq_getElem (by omega)))
      obtain ⟨s, e2, _, hs⟩ := DataW.trod_string Try.underlying9 (f2.trans (List.getElem?_eq_getElem (by omega)))
      simp only [List.cons.injEq, and_true] at e0 e1 e2
      subst e0 e1 e2
      have b0 := bounds_i64 w0
      have b1 := bounds_i64 w1
      have hm : maxLen = 9223372036854775807 := by decide
      refine ⟨⟨n0, n1, s.data.toList⟩, ⟨⟨by simp only; omega, by simp only; omega⟩, ⟨by simp only; omega, by simp only; omega⟩, ?_⟩, by simp only [encY]; rw [str_of]⟩
      simp only
      rw [list_size]
      omega) hv h
theorem sessLives_walk (v : Value) (l : List Wy) (w : World) (hv : (∀ x ∈ l, WyIn x) ∧ Steps15 w v l) :
    Calls Try.prog 4 #[v] w fun e w' => e = .returned (.bool true) ∧ Below w.heap.size w w' := by
  obtain ⟨hok, A, cap, rfl, h1, h2, h3⟩ := hv
  have hlen : (l.length : Int) ≤ 9223372036854775807 := by omega
  by_cases hg : 120 < l.length
  · have d2 : decide (120 < (l.length : Int)) = true := decide_eq_true (by omega)
    have HA := Lib.hid (alive15_any w)
    clear h3 hok
    go_enter Try.func4, Try.ntmps4
    go_wp2_with fail
    refine HA.out.mono ?_
    rintro e w4 ⟨rfl, hb4⟩
    go_wp2
    go_ret
    exact ⟨rfl, hb4⟩
  have d2 : decide (120 < (l.length : Int)) = false := decide_eq_false (by omega)
  have H3 := Lib.hid h3
  have HOK := Lib.hid hok
  have HL : Hid (l.length ≤ 120) := Lib.hid (by omega)
  have HNA := Lib.hid (sesNew_any 1 2 1)
  have HNB := Lib.hid (sesNew_any 2 1 1)
  clear h3 hok hg
  go_enter Try.func4, Try.ntmps4
  go_wp2_with fail
  refine (HNA.out w).mono ?_
  rintro e w1 ⟨ga, rfl, h1'⟩
  have H1 := Lib.hid h1'
  clear h1'
  go_wp2_with fail
  refine (HNB.out w1).mono ?_
  rintro e w2 ⟨gb, rfl, h2'⟩
  have h7 := H1.out.with_ (holdSN _ _ _) h2'
  have hn := has_none (e := 9) (size := 1) (w := w2)
  have hh := h7.with_ ((holdSN _ _ _).both (holdSN _ _ _)) ((has_none (e := 34) (size := 8) (w := w2)).with_ (holdRwX _ _ _ _ _) ((hn.with_ (holdRwX _ _ _ _ _) hn).with_ ((holdRwX _ _ _ _ _).both (holdRwX _ _ _ _ _)) (hn.with_ (holdRwX _ _ _ _ _) hn)))
  have h0 : Has (St.hold ⟨ga, gb, 0, newS 1 2 1, newS 2 1 1, .slice none 0 0, [], .slice none 0 0, [], .slice none 0 0, [], .slice none 0 0, [], .slice none 0 0, []⟩) w w2 := hh
  have H0 := Lib.hid (h0.with_ (St.hold_ok _) (rwD_two w2))
  clear h2' h7 hn hh h0 H1 HNA HNB
  go_wp2_with fail
  refine loop_act w _ ⟨ga, gb, 0, newS 1 2 1, newS 2 1 1, .slice none 0 0, [], .slice none 0 0, [], .slice none 0 0, [], .slice none 0 0, [], .slice none 0 0, []⟩ (.slice (some ⟨w2.heap.size, 0, none⟩) 2 2) [(.slice none 0 0, []), (.slice none 0 0, [])] A cap l HL.out H3.out HOK.out H0.out ⟨lvs_new _ _ _ _ _ _ _ _, onceN_new 1 _ _ _ _ _ _ _ _ _ _ (Nat.le_refl _), (show (1 : Int) ≤ 20 by decide), fun p hp => by simp at hp; subst hp; exact Nat.le_refl _⟩ undef _ _ ⟨rfl, rfl, rfl, rfl, rfl, rfl, rfl, rfl, rfl, rfl, rfl, rfl⟩ ?_ ?_
  · intro a' w' s vd R x y hk hA hL hxy
    have hnr := st_near hA
    have hCalm := CalmL.start hL.lvs hnr.1.2 hL.on (by have := HL.out; omega)
    have hlen2 := hL.len
    have hlife := hL.life
    have hls : R.length ≤ 1000 ∧ ∀ p ∈ R, p.2.length ≤ 120 := ⟨by omega, fun p hp => Nat.le_trans (hL.lens p hp) (by have := HL.out; omega)⟩
    have HC := Lib.hid hCalm
    have HA := Lib.hid hA
    have HLS := Lib.hid hls
    clear hA hL hxy hCalm H0 hnr hlen2 hlife hls
    rw [open_act a' hk.d hk.z]
    generalize hf : (fun n => a'.tmps.getD n undef) = f
    have e0 : f 0 = .slice A l.length cap := by rw [← hf]; exact hk.s0
    have hkf : KeepG f vd s := by rw [← hf]; exact hk.f
    clear hf hk
    have E5 := Lib.hid hkf.s5
    have E6 := Lib.hid hkf.s6
    have E7 := Lib.hid hkf.s7
    have E8 := Lib.hid hkf.s8
    have E9 := Lib.hid hkf.s9
    have h3 := hkf.s3
    have h4 := hkf.s4
    unfold frame
    rw [e0, h3, h4]
    clear e0 h3 h4 hkf
    simp only [Exit.inBlock, Exit.then, ↓reduceIte]
    go_wp2_with fail
    refine calm_act w w' s vd R HLS.out HA.out HC.out (.slice A l.length cap) (f 10) _ _ ⟨rfl, rfl, rfl, rfl, rfl, E5.out, E6.out, E7.out, E8.out, E9.out, rfl, rfl⟩ ?_
    intro a2 w3 s2 hk2 hA2 hC2
    clear E5 E6 E7 E8 E9 HA HC
    obtain ⟨cW, cL⟩ := hC2.last
    obtain ⟨_, hrd⟩ := st_other hA2
    obtain ⟨Ad, cd, rfl, hd⟩ := rwD_at hrd
    have hlen := hC2.lvs.len
    rw [List.length_map] at hlen
    have hm1 := hC2.lvs.d.xm
    obtain ⟨m, hm⟩ : ∃ m : Nat, s2.b.m = (m : Int) := ⟨s2.b.m.toNat, by omega⟩
    have hmR : m < R.length := by omega
    obtain ⟨bd, od, rfl, hbd, hcd, -, Ai, ci, ei, -⟩ := hd m hmR
    rw [ei] at hcd
    have hl : (R.map Prod.snd).getD m [] = R[m].2 := by simp [List.getD_eq_getElem?_getD, hmR]
    rw [hm, Int.toNat_natCast, hl] at cL
    have hlm := HLS.out.2 R[m] (List.getElem_mem hmR)
    obtain ⟨nl, hnl⟩ : ∃ nl, nl = R[m].2.length := ⟨_, rfl⟩
    rw [← hnl] at hcd hlm
    have hcase : nl = 0 ∨ (0 < nl ∧ s2.a.y = (m : Int) ∧ s2.a.n = nl) := by
      by_cases h0 : nl = 0
      · exact .inl h0
      · refine .inr ⟨by omega, ?_⟩
        rw [hnl]
        exact cL.resolve_left fun e => h0 (by rw [hnl, e]; rfl)
    rw [open_act a2 hk2.d hk2.z]
    generalize hf : (fun n => a2.tmps.getD n undef) = f2
    have hkf : KeepG f2 (.slice (some ⟨bd, od, none⟩) R.length cd) s2 := by rw [← hf]; exact hk2.f
    clear hf hk2
    have g4 := hkf.s4
    have g5 := hkf.s5
    have g7 := hkf.s7
    have g8 := hkf.s8
    have g9 := hkf.s9
    rw [hm] at g5
    have HI := Lib.hid hA2
    have hwb := st_waitsB hA2
    have HCW := Lib.hid cW
    have hmI : (m : Int) < (R.length : Int) := by omega
    have HCD := Lib.hid (And.intro hcd hbd)
    clear hA2 hC2 hrd hd hlen hm1 hm ei hl cL hkf hwb cW hcd hbd hnl
    unfold frame
    rw [g4, g5, g7, g8, g9]
    clear g4 g5 g7 g8 g9
    simp only [Exit.inBlock, Exit.then, ↓reduceIte]
    go_wp2_with fail
    refine (alive15_any w3).mono ?_
    rintro e w4 ⟨rfl, hb4⟩
    have HI4 := Lib.hid (HI.out.down (s2.hold_ok.both (holdRwD _ _)) hb4)
    have hwb := st_waitsB HI4.out
    rw [HCW.out] at hwb
    have HWB := Lib.hid hwb
    have hcd4 := (hb4.cell (p := ⟨bd, od + m, none⟩) HCD.out.2).trans HCD.out.1
    have hbd4 : bd < w4.heap.size := Nat.lt_of_lt_of_le HCD.out.2 hb4.size
    have HB4 := Lib.hid HI4.out.below
    clear hwb hb4 HI HCD HI4
    go_wp2_with fail
    refine HWB.out.mono ?_
    rintro e w7 ⟨rfl, rfl⟩
    rcases hcase with rfl | ⟨hp, hy, hn⟩
    · go_wp2
      go_ret
      exact ⟨rfl, HB4.out⟩
    · have u1 : ((nl : Int) == 0) = false := by simp; omega
      rw [hy, hn]
      clear hy hn
      go_wp2
      go_ret
      exact ⟨rfl, HB4.out⟩
  · intro a' w' hd hsz h2 hb
    have HB := Lib.hid hb
    clear hb H0
    rw [open_act a' hd hsz]
    generalize hf : (fun n => a'.tmps.getD n undef) = f
    have g2 : f 2 = .bool true := by rw [← hf]; exact h2
    clear hf hd hsz h2
    unfold frame
    rw [g2]
    simp only [Exit.inBlock, Exit.then]
    go_ret
    exact ⟨rfl, HB.out⟩

set_option maxRecDepth 100000 in
theorem sessLives_lifted (os : Os) (started : os.Started) (H : Type) (enc : TypeId × Value → H) :
    ReturnsInHanded {} Try.checked os 4 .any (Rows.sessLivesSpec.pre6 enc Try.prog Try.f4 Rows.sessLivesRow.domain false) (Rows.sessLivesSpec.post enc Try.prog Try.f4 false true false false) := by
  refine returnsInHanded_of_change (C := Try.checked) own started (by kernel_rfl) Try.func4
    (ChangeSpec.witness6 (enc := enc) (C := Try.checked) false ⟨#[], #[.slice none 0 0], []⟩ 8 (by kernel_rfl) (by kernel_rfl) (by kernel_rfl) (by kernel_rfl)) ?_
  intro W base args ds gs before hval0 hW _ _
  have hval : ∀ (j : Nat) t v, Try.f4.params[j]? = some t → args[j]? = some v → Value.okWide Try.prog W .any base t v := hval0
  have hW' := hW
  obtain ⟨p, q, hA0, hV, rfl, hfz, hnd⟩ := hW
  have hA : DataW.TrodAll enc Try.prog W 0 (fun _ => true) true Try.f4.params.toList args.toList ds p := hA0
  rw [Try.params4] at hA hval
  obtain ⟨v0, vs0, d0, ds0, p0, q0, hargs, rfl, rfl, h0, r0⟩ := trodAll_cons hA
  obtain ⟨rfl, rfl, rfl⟩ := trodAll_nil r0
  obtain rfl : args = #[v0] := by cases args; simp_all
  obtain ⟨rfl, rfl⟩ := trodVars_none hV
  have k0 := h0
  have lt0 : ∀ x ∈ p0, x.block < W.heap.size := by obtain ⟨m, hm⟩ := k0; exact DataW.trod_lt m _ _ _ hm
  obtain ⟨a0, w0⟩ := ways_open (hval 0 22 v0 rfl rfl) k0
  clear hA0 hval0
  refine (sessLives_walk v0 a0 W w0).mono fun e W' ⟨he, bel⟩ => ?_
  subst he
  exact ⟨_, rfl, _, _, _, [], _, [], hW', trodAll_mk1 (shut_bool Try.underlying4 _), (trodAll_cons_mk (Below.trod laidOut (by kernel_rfl) (of_decide_eq_true (by kernel_rfl)) k0 bel lt0) trodAll_mk0), rfl, bel.frame _, fun h => by cases h⟩

theorem sessLives_said : Rows.SessLivesSaid :=
  OpenClaim.holds_of_wide 4 Try.f4 rfl rfl rfl rfl rfl rfl rfl ⟨rfl, rfl, rfl, rfl, rfl⟩ rfl rfl rfl rfl rfl (by kernel_rfl) Try.func4 (by unfold joinedFacts; simp only [Bool.and_eq_true]; and_intros <;> as_aux_lemma => kernel_rfl)
    (of_decide_eq_true (by kernel_rfl)) (by unfold Func.isWrapper; first | (rw [if_pos (by decide +kernel)]; kernel_rfl) | (rw [if_neg (by decide +kernel)]; exact ⟨rfl, rfl⟩))
    (fun os started H enc _ => sessLives_lifted os started H enc)
#print axioms sessLives_said
end Go.Proofs.Ytbpcbdlmkoajdaa
