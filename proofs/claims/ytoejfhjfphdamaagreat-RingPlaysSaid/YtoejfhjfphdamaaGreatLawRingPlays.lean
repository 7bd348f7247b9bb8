/- The statement RingPlays of package ring: every ring, and every call, in every order; what is handed in stays; lists kept, marked, grown; it holds of every int, every bool and every list of operations. -/
import Derived.Test.YtoejfhjfphdamaaGreatRgC
import Derived.Test.YtoejfhjfphdamaaGreatBookI
import Derived.Test.YtoejfhjfphdamaaGreatAlive
import Derived.Test.YtoejfhjfphdamaaGreatBase
import Derived.Deep.DeepCutAuto
import Derived.Deep.CutBlock
import Derived.OpenShut
import Derived.ChangeOld
namespace Go.Proofs.YtoejfhjfphdamaaGreat
open Go Go.RowKit Go.ChangeShapes Go.WideShapes Go.ChangeAt
set_option maxRecDepth 1000000
set_option maxHeartbeats 8000000
set_option linter.unusedSimpArgs false

theorem refroom_any (k : Int) (w : World) (m : Nat) (hm : m = min k.toNat 100000) :
    Calls Tryz.prog 6 #[.int .i64 k] w fun e w' => e = .returned (.int .i64 m) ∧ w = w' := by
  obtain ⟨q, hq⟩ : ∃ q : Nat, q = k.toNat := ⟨_, rfl⟩
  have HX : Hid (max k 0 = (q : Int)) := Lib.hid (by omega)
  have HM : Hid (min (q : Int) 100000 = (m : Int)) := Lib.hid (by omega)
  clear hq hm
  go_enter Tryz.func6, Tryz.ntmps6
  go_wp2_with (first | ((with_reducible refine at_list ?_); refine wpList_max_eq rfl (.tmp 3) (.const (.int .i64 0)) _ rfl _ _ _ _ _ rfl rfl HX.out ?_) | ((with_reducible refine at_list ?_); refine wpList_min_eq rfl (.tmp 4) (.const (.int .i64 100000)) _ rfl _ _ _ _ _ rfl rfl HM.out ?_))
  go_ret
  exact ⟨rfl, rfl⟩
theorem ringPlays_walk (r0 : Int) (_wr : (Lit.int .i64 r0).wf = true) (zero : Bool) (v : Value) (l : List OpR) (w : World) (hv : (∀ x ∈ l, OpR.Good w x) ∧ SliceAt 4 opCells w v l) :
    Calls Tryz.prog 3 #[.int .i64 r0, .bool zero, v] w fun e w' => e = .returned (.bool true) ∧ Below w.heap.size w w' := by
  clear _wr
  obtain ⟨hok, A, cap, rfl, h1, h2, h3⟩ := hv
  have hlen : (l.length : Int) ≤ 9223372036854775807 := by omega
  by_cases hg : 100 < l.length
  · have d1 : decide ((l.length : Int) > 100) = true := decide_eq_true (by omega)
    have d2 : decide (100 < (l.length : Int)) = true := decide_eq_true (by omega)
    clear h3 hok
    go_enter Tryz.func3, Tryz.ntmps3
    go_wp2_with fail
    refine (alive_any w).mono ?_
    rintro e w4 ⟨rfl, hb⟩
    go_wp2
    go_ret
    exact ⟨rfl, hb⟩
  have d1 : decide ((l.length : Int) > 100) = false := decide_eq_false (by omega)
  have d2 : decide (100 < (l.length : Int)) = false := decide_eq_false (by omega)
  have H3 := Lib.hid h3
  have HOK := Lib.hid hok
  have HL : Hid (l.length ≤ 100) := Lib.hid (by omega)
  clear h3 hok hg
  obtain ⟨m0, hm0⟩ : ∃ m, m = min r0.toNat 100000 := ⟨_, rfl⟩
  have HM0 := Lib.hid hm0
  clear hm0
  cases zero with
  | false =>
    go_enter Tryz.func3, Tryz.ntmps3
    go_wp2_with fail
    refine (newI_any r0 w m0 HM0.out).mono ?_
    rintro e w1 ⟨rfl, hH, hB⟩
    have H1 := Lib.hid hH
    have B1 := Lib.hid hB
    clear hH hB
    go_wp2_with fail
    refine (refroom_any r0 w1 m0 HM0.out).mono ?_
    rintro e w2 ⟨rfl, rfl⟩
    go_wp2_with fail
    obtain ⟨wb, hwb⟩ : ∃ wb, wb = w1.alloc (.cells (bookI (.slice none 0 0) (.slice none 0 0)) 47) := ⟨_, rfl⟩
    obtain ⟨kb, hkb⟩ : ∃ kb, kb = w1.heap.size := ⟨_, rfl⟩
    have hbw : Below w1.heap.size w1 wb := hwb ▸ (Below.refl _ _).alloc (Nat.le_refl _) _
    have hbook : BookAt wb kb w.heap.size [] [] := book_new (by rw [hwb, hkb]; exact Sits.fresh w1 _ _) (by rw [hkb]; exact B1.out.size)
    unfold bookI at hwb
    rw [← hwb, ← hkb]
    have HS := Lib.hid (show StH w wb w.heap.size w.heap.size kb m0 [] (.slice none 0 0) [] [] from ⟨H1.out.below hbw, RowAt.nil _ _ _ _, fun k hk => by simp [Value.ownBlock] at hk, hbook, ⟨by simp, by simp⟩, ⟨Nat.le_refl _, Nat.le_refl _⟩, B1.out.trans (hbw.mono B1.out.size)⟩)
    clear hwb hkb hbw hbook
    refine loop_act w wb w.heap.size w.heap.size kb m0 [] (.slice none 0 0) A cap l HL.out H3.out HOK.out HS.out _ _ ⟨rfl, rfl, rfl, rfl, rfl, rfl, rfl, rfl⟩ ?_ ?_
    · rintro a' w' ks ts hd hsz g10 hBK hBW
      have HK := Lib.hid hBK
      have HW := Lib.hid hBW
      clear hBK hBW HS
      rw [open_act a' hd hsz]
      generalize hf : (fun n => a'.tmps.getD n undef) = f
      have g10' : f 10 = .pointer (some ⟨kb, 0, none⟩) := by rw [← hf]; exact g10
      clear hf g10 hd hsz
      unfold frame
      rw [g10']
      clear g10'
      simp only [Exit.inBlock, Exit.then, ↓reduceIte]
      go_wp2_with fail
      refine (alive_any _).mono ?_
      rintro e w5 ⟨rfl, hb⟩
      have HK5 := Lib.hid (HK.out.keep hb)
      have HW5 := Lib.hid (HW.out.trans (hb.mono HW.out.size))
      clear hb
      go_wp2_with fail
      refine (HK5.out.apart HW5.out.size).mono ?_
      rintro e w6 ⟨rfl, hb⟩
      have HW6 := Lib.hid (HW5.out.trans hb)
      clear hb
      go_wp2
      go_ret
      exact ⟨rfl, HW6.out⟩
    · intro a' w' hd hsz g6 hBW
      rw [open_act a' hd hsz]
      generalize hf : (fun n => a'.tmps.getD n undef) = f
      have g6' : f 6 = .bool true := by rw [← hf]; exact g6
      clear hf g6 hd hsz
      unfold frame
      rw [g6']
      clear g6'
      simp only [Exit.inBlock, Exit.then, ↓reduceIte]
      go_ret
      exact ⟨rfl, hBW⟩
  | true =>
    go_enter Tryz.func3, Tryz.ntmps3
    go_wp2_with fail
    refine (newI_any r0 w m0 HM0.out).mono ?_
    rintro e w1 ⟨rfl, hH, hB⟩
    have H1 := Lib.hid hH
    have B1 := Lib.hid hB
    clear hH hB
    go_wp2_with fail
    refine (refroom_any r0 w1 m0 HM0.out).mono ?_
    rintro e w2 ⟨rfl, rfl⟩
    go_wp2_with fail
    obtain ⟨wz, hwz⟩ : ∃ wz, wz = w1.alloc (.cells #[.int .i64 0, .slice none 0 0, .int .i64 0, .int .i64 0] 29) := ⟨_, rfl⟩
    obtain ⟨rp, hrp⟩ : ∃ rp, rp = w1.heap.size := ⟨_, rfl⟩
    have hbz : Below w1.heap.size w1 wz := hwz ▸ (Below.refl _ _).alloc (Nat.le_refl _) _
    have hrz : RingI wz rp rp 0 [] := .inl ⟨rfl, rfl, by omega, by rw [hwz, hrp]; exact Sits.fresh w1 _ _⟩
    rw [← hwz, ← hrp]
    obtain ⟨wb, hwb⟩ : ∃ wb, wb = wz.alloc (.cells (bookI (.slice none 0 0) (.slice none 0 0)) 47) := ⟨_, rfl⟩
    obtain ⟨kb, hkb⟩ : ∃ kb, kb = rp + 1 := ⟨_, rfl⟩
    have hks : kb = wz.heap.size := by rw [hkb, hrp, hwz, World.size_alloc]
    have hbw : Below wz.heap.size wz wb := hwb ▸ (Below.refl _ _).alloc (Nat.le_refl _) _
    have hB1z := B1.out.trans (hbz.mono B1.out.size)
    have hbook : BookAt wb kb w.heap.size [] [] := book_new (by rw [hwb, hks]; exact Sits.fresh wz _ _) (by rw [hks]; exact hB1z.size)
    unfold bookI at hwb
    rw [← hwb, ← hkb]
    have hrp0 : w.heap.size ≤ rp := by rw [hrp]; exact B1.out.size
    have HS := Lib.hid (show StH w wb rp rp kb 0 [] (.slice none 0 0) [] [] from ⟨hrz.below hbw, RowAt.nil _ _ _ _, fun k hk => by simp [Value.ownBlock] at hk, hbook, ⟨by simp, by simp⟩, ⟨hrp0, hrp0⟩, hB1z.trans (hbw.mono hB1z.size)⟩)
    clear hwb hkb hks hbw hbook hwz hrp hbz hrz hB1z hrp0
    refine loop_act w wb rp rp kb 0 [] (.slice none 0 0) A cap l HL.out H3.out HOK.out HS.out _ _ ⟨rfl, rfl, rfl, rfl, rfl, rfl, rfl, rfl⟩ ?_ ?_
    · rintro a' w' ks ts hd hsz g10 hBK hBW
      have HK := Lib.hid hBK
      have HW := Lib.hid hBW
      clear hBK hBW HS
      rw [open_act a' hd hsz]
      generalize hf : (fun n => a'.tmps.getD n undef) = f
      have g10' : f 10 = .pointer (some ⟨kb, 0, none⟩) := by rw [← hf]; exact g10
      clear hf g10 hd hsz
      unfold frame
      rw [g10']
      clear g10'
      simp only [Exit.inBlock, Exit.then, ↓reduceIte]
      go_wp2_with fail
      refine (alive_any _).mono ?_
      rintro e w5 ⟨rfl, hb⟩
      have HK5 := Lib.hid (HK.out.keep hb)
      have HW5 := Lib.hid (HW.out.trans (hb.mono HW.out.size))
      clear hb
      go_wp2_with fail
      refine (HK5.out.apart HW5.out.size).mono ?_
      rintro e w6 ⟨rfl, hb⟩
      have HW6 := Lib.hid (HW5.out.trans hb)
      clear hb
      go_wp2
      go_ret
      exact ⟨rfl, HW6.out⟩
    · intro a' w' hd hsz g6 hBW
      rw [open_act a' hd hsz]
      generalize hf : (fun n => a'.tmps.getD n undef) = f
      have g6' : f 6 = .bool true := by rw [← hf]; exact g6
      clear hf g6 hd hsz
      unfold frame
      rw [g6']
      clear g6'
      simp only [Exit.inBlock, Exit.then, ↓reduceIte]
      go_ret
      exact ⟨rfl, hBW⟩

set_option maxRecDepth 100000 in
theorem ringPlays_lifted (os : Os) (started : os.Started) (H : Type) (enc : TypeId × Value → H) :
    ReturnsInHanded {} Tryz.checked os 3 .any (Rows.ringPlaysSpec.pre6 enc Tryz.prog Tryz.f3 Rows.ringPlaysRow.domain false) (Rows.ringPlaysSpec.post enc Tryz.prog Tryz.f3 false true false false) := by
  refine returnsInHanded_of_change (C := Tryz.checked) own started (by kernel_rfl) Tryz.func3
    (ChangeSpec.witness6 (enc := enc) (C := Tryz.checked) false ⟨#[], #[.int .i64 0, .bool false, .slice none 0 0], []⟩ 8 (by kernel_rfl) (by kernel_rfl) (by kernel_rfl) (by kernel_rfl)) ?_
  intro W base args ds gs before hval0 hW _ _
  have hval : ∀ (j : Nat) t v, Tryz.f3.params[j]? = some t → args[j]? = some v → Value.okWide Tryz.prog W .any base t v := hval0
  have hW' := hW
  obtain ⟨p, q, hA0, hV, rfl, hfz, hnd⟩ := hW
  have hA : DataW.TrodAll enc Tryz.prog W 0 (fun _ => true) true Tryz.f3.params.toList args.toList ds p := hA0
  rw [Tryz.params3] at hA hval
  obtain ⟨v0, vs0, d0, ds0, p0, q0, hargs, rfl, rfl, h0, r0⟩ := trodAll_cons hA
  obtain ⟨v1, vs1, d1, ds1, p1, q1, rfl, rfl, rfl, h1, r1⟩ := trodAll_cons r0
  obtain ⟨v2, vs2, d2, ds2, p2, q2, rfl, rfl, rfl, h2, r2⟩ := trodAll_cons r1
  obtain ⟨rfl, rfl, rfl⟩ := trodAll_nil r2
  obtain rfl : args = #[v0, v1, v2] := by cases args; simp_all
  obtain ⟨rfl, rfl⟩ := trodVars_none hV
  have k0 := h0
  have lt0 : ∀ x ∈ p0, x.block < W.heap.size := by obtain ⟨m, hm⟩ := k0; exact DataW.trod_lt m _ _ _ hm
  have k1 := h1
  have lt1 : ∀ x ∈ p1, x.block < W.heap.size := by obtain ⟨m, hm⟩ := k1; exact DataW.trod_lt m _ _ _ hm
  have k2 := h2
  have lt2 : ∀ x ∈ p2, x.block < W.heap.size := by obtain ⟨m, hm⟩ := k2; exact DataW.trod_lt m _ _ _ hm
  obtain ⟨a0, rfl, rfl, rfl, w0⟩ := open_int Tryz.underlying3 (hval 0 3 v0 rfl rfl) h0
  obtain ⟨a1, rfl, rfl, rfl⟩ := open_bool Tryz.underlying4 (hval 1 4 v1 rfl rfl) h1
  obtain ⟨a2, w2⟩ := ops3_open (hval 2 22 v2 rfl rfl) k2
  clear hA0 hval0
  refine (ringPlays_walk a0 w0 a1 v2 a2 W w2).mono fun e W' ⟨he, bel⟩ => ?_
  subst he
  exact ⟨_, rfl, _, _, _, [], _, [], hW', trodAll_mk1 (shut_bool Tryz.underlying4 _), (trodAll_cons_mk (Below.trod laidOut (by kernel_rfl) (of_decide_eq_true (by kernel_rfl)) k0 bel lt0) (trodAll_cons_mk (Below.trod laidOut (by kernel_rfl) (of_decide_eq_true (by kernel_rfl)) k1 bel lt1) (trodAll_cons_mk (Below.trod laidOut (by kernel_rfl) (of_decide_eq_true (by kernel_rfl)) k2 bel lt2) trodAll_mk0))), rfl, bel.frame _, fun h => by cases h⟩

theorem ringPlays_said : Rows.RingPlaysSaid :=
  OpenClaim.holds_of_wide 3 Tryz.f3 rfl rfl rfl rfl rfl rfl rfl ⟨rfl, rfl, rfl, rfl, rfl⟩ rfl rfl rfl rfl rfl (by kernel_rfl) Tryz.func3 (by kernel_rfl)
    (of_decide_eq_true (by kernel_rfl)) (by unfold Func.isWrapper; first | (rw [if_pos (by decide +kernel)]; kernel_rfl) | (rw [if_neg (by decide +kernel)]; exact ⟨rfl, rfl⟩))
    (fun os started H enc _ => ringPlays_lifted os started H enc)
#print axioms ringPlays_said
end Go.Proofs.YtoejfhjfphdamaaGreat
