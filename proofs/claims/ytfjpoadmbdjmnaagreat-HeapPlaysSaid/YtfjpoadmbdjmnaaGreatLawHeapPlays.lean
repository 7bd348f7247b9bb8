/- The statement HeapPlays of package heap: every heap, and every call, in every order; lists kept, marked, grown; it holds of every bool and every list of operations. -/
import Derived.Test.YtfjpoadmbdjmnaaGreatHpF
import Derived.Test.YtfjpoadmbdjmnaaGreatBookI
import Derived.Test.YtfjpoadmbdjmnaaGreatHAlive
import Derived.Test.YtfjpoadmbdjmnaaGreatBase
import Derived.Deep.DeepCutAuto
import Derived.Deep.CutBlock
import Derived.OpenShut
import Derived.ChangeOld
namespace Go.Proofs.YtfjpoadmbdjmnaaGreat
open Go Go.RowKit Go.ChangeShapes Go.WideShapes Go.ChangeAt HeapP
set_option maxRecDepth 1000000
set_option maxHeartbeats 8000000
set_option linter.unusedSimpArgs false

theorem ref_new (w1 : World) (lo : Nat) (h : lo ≤ w1.heap.size) : RefAt (w1.alloc (.cells #[.slice none 0 0, .int .i64 0] 29)) w1.heap.size lo 0 [] :=
  ⟨⟨_, Sits.fresh w1 _ _, World.ownsRow_nil _ _ _ _⟩, h⟩
theorem heapPlays_walk (zero : Bool) (v : Value) (l : List OpH) (w : World) (hv : (∀ x ∈ l, OpH.Good x) ∧ SliceAt 3 opCells w v l) :
    Calls Tryz.prog 3 #[.bool zero, v] w fun e w' => e = .returned (.bool true) ∧ Below w.heap.size w w' := by
  obtain ⟨hok, A, cap, rfl, h1, h2, h3⟩ := hv
  have hlen : (l.length : Int) ≤ 9223372036854775807 := by omega
  by_cases hg : 150 < l.length
  · have d1 : decide ((l.length : Int) > 150) = true := decide_eq_true (by omega)
    have d2 : decide (150 < (l.length : Int)) = true := decide_eq_true (by omega)
    clear h3 hok
    go_enter Tryz.func3, Tryz.ntmps3
    go_wp2_with fail
    refine (alive4_any w).mono ?_
    rintro e w4 ⟨rfl, hb4⟩
    go_wp2
    go_ret
    exact ⟨rfl, hb4⟩
  have d1 : decide ((l.length : Int) > 150) = false := decide_eq_false (by omega)
  have d2 : decide (150 < (l.length : Int)) = false := decide_eq_false (by omega)
  have H3 := Lib.hid h3
  have HOK := Lib.hid hok
  have HL : Hid (l.length ≤ 150) := Lib.hid (by omega)
  clear h3 hok hg
  cases zero with
  | false =>
    go_enter Tryz.func3, Tryz.ntmps3
    go_wp2_with fail
    refine (newI_any w).mono ?_
    rintro e w1 ⟨hb, rfl, hH, hB⟩
    have H1 := Lib.hid hH
    have B1 := Lib.hid hB
    clear hH hB
    go_wp2_with fail
    obtain ⟨wr, hwr⟩ : ∃ wr, wr = w1.alloc (.cells #[.slice none 0 0, .int .i64 0] 29) := ⟨_, rfl⟩
    obtain ⟨rb, hrb⟩ : ∃ rb, rb = w1.heap.size := ⟨_, rfl⟩
    have hbr : Below w1.heap.size w1 wr := hwr ▸ (Below.refl _ _).alloc (Nat.le_refl _) _
    have hR : RefAt wr rb w.heap.size 0 [] := by rw [hwr, hrb]; exact ref_new w1 _ B1.out.size
    have hsr : wr.heap.size = rb + 1 := by rw [hwr, hrb, World.size_alloc]
    have BR := B1.out.trans (hbr.mono B1.out.size)
    rw [← hwr, ← hrb]
    obtain ⟨wb, hwb⟩ : ∃ wb, wb = wr.alloc (.cells (bookI (.slice none 0 0) (.slice none 0 0)) 50) := ⟨_, rfl⟩
    obtain ⟨kb, hkb⟩ : ∃ kb, kb = rb + 1 := ⟨_, rfl⟩
    have hks : kb = wr.heap.size := by rw [hkb, hsr]
    have hbw : Below wr.heap.size wr wb := hwb ▸ (Below.refl _ _).alloc (Nat.le_refl _) _
    have hbook : BookAt wb kb w.heap.size [] [] := book_new (by rw [hwb, hks]; exact Sits.fresh wr _ _) (by rw [hks]; exact BR.size)
    unfold bookI at hwb
    rw [← hwb, ← hkb]
    have HS := Lib.hid (show StH w wb hb rb kb 0 0 [] [] [] from ⟨(H1.out.below hbr).below hbw, hR.below hbw, hbook, BR.trans (hbw.mono BR.size)⟩)
    clear hwb hkb hks hbw hbook hwr hrb hbr hR hsr BR
    refine loop_act w wb hb rb kb 0 A cap l HL.out H3.out HOK.out HS.out (by omega) _ _ ⟨rfl, rfl, rfl, rfl, rfl, rfl, rfl⟩ ?_
    rintro a' w' ks ts hd hsz g7 hBK hBW
    have HK := Lib.hid hBK
    have HW := Lib.hid hBW
    clear hBK hBW HS
    rw [open_act a' hd hsz]
    generalize hf : (fun n => a'.tmps.getD n undef) = f
    have g7' : f 7 = .pointer (some ⟨kb, 0, none⟩) := by rw [← hf]; exact g7
    clear hf g7 hd hsz
    unfold frame
    rw [g7']
    clear g7'
    simp only [Exit.inBlock, Exit.then, ↓reduceIte]
    go_wp2_with fail
    refine (alive4_any _).mono ?_
    rintro e w5 ⟨rfl, hb5⟩
    have HK5 := Lib.hid (HK.out.keep hb5)
    have HW5 := Lib.hid (HW.out.trans (hb5.mono HW.out.size))
    clear hb5
    go_wp2_with fail
    refine (HK5.out.apart HW5.out.size).mono ?_
    rintro e w6 ⟨rfl, hb6⟩
    have HW6 := Lib.hid (HW5.out.trans hb6)
    clear hb6
    go_wp2
    go_ret
    exact ⟨rfl, HW6.out⟩
  | true =>
    go_enter Tryz.func3, Tryz.ntmps3
    go_wp2_with fail
    refine (newI_any w).mono ?_
    rintro e w1 ⟨hb, rfl, hH, hB⟩
    have H1 := Lib.hid hH
    have B1 := Lib.hid hB
    clear hH hB
    go_wp2_with fail
    obtain ⟨wr, hwr⟩ : ∃ wr, wr = w1.alloc (.cells #[.slice none 0 0, .int .i64 0] 29) := ⟨_, rfl⟩
    obtain ⟨rb, hrb⟩ : ∃ rb, rb = w1.heap.size := ⟨_, rfl⟩
    have hbr : Below w1.heap.size w1 wr := hwr ▸ (Below.refl _ _).alloc (Nat.le_refl _) _
    have hR : RefAt wr rb w.heap.size 0 [] := by rw [hwr, hrb]; exact ref_new w1 _ B1.out.size
    have hsr : wr.heap.size = rb + 1 := by rw [hwr, hrb, World.size_alloc]
    have BR := B1.out.trans (hbr.mono B1.out.size)
    rw [← hwr, ← hrb]
    obtain ⟨wz, hwz⟩ : ∃ wz, wz = wr.alloc (.cells #[.pointer none] 32) := ⟨_, rfl⟩
    clear H1 B1
    obtain ⟨hz, hhz⟩ : ∃ hz, hz = rb + 1 := ⟨_, rfl⟩
    have hsz0 : hz = wr.heap.size := by rw [hhz, hsr]
    have hbz : Below wr.heap.size wr wz := hwz ▸ (Below.refl _ _).alloc (Nat.le_refl _) _
    have hZ : HeapAtI wz hz w.heap.size 0 0 [] := ⟨List.Pairwise.nil, by simp, by omega, by omega, by simp, by omega, by rw [hsz0]; exact BR.size, .inl ⟨rfl, rfl, by rw [hwz, hsz0]; exact Sits.fresh wr _ _⟩⟩
    have hszz : wz.heap.size = hz + 1 := by rw [hwz, hsz0, World.size_alloc]
    have BZ := BR.trans (hbz.mono BR.size)
    rw [← hwz, ← hhz]
    obtain ⟨wb, hwb⟩ : ∃ wb, wb = wz.alloc (.cells (bookI (.slice none 0 0) (.slice none 0 0)) 50) := ⟨_, rfl⟩
    obtain ⟨kb, hkb⟩ : ∃ kb, kb = hz + 1 := ⟨_, rfl⟩
    have hks : kb = wz.heap.size := by rw [hkb, hszz]
    have hbw : Below wz.heap.size wz wb := hwb ▸ (Below.refl _ _).alloc (Nat.le_refl _) _
    have hbook : BookAt wb kb w.heap.size [] [] := book_new (by rw [hwb, hks]; exact Sits.fresh wz _ _) (by rw [hks]; exact BZ.size)
    unfold bookI at hwb
    rw [← hwb, ← hkb]
    have HS := Lib.hid (show StH w wb hz rb kb 0 0 [] [] [] from ⟨hZ.below hbw, (hR.below hbz).below hbw, hbook, BZ.trans (hbw.mono BZ.size)⟩)
    clear hwb hkb hks hbw hbook hwr hrb hbr hR hsr BR hwz hhz hsz0 hbz hZ hszz BZ
    refine loop_act w wb hz rb kb 0 A cap l HL.out H3.out HOK.out HS.out (by omega) _ _ ⟨rfl, rfl, rfl, rfl, rfl, rfl, rfl⟩ ?_
    rintro a' w' ks ts hd hsz g7 hBK hBW
    have HK := Lib.hid hBK
    have HW := Lib.hid hBW
    clear hBK hBW HS
    rw [open_act a' hd hsz]
    generalize hf : (fun n => a'.tmps.getD n undef) = f
    have g7' : f 7 = .pointer (some ⟨kb, 0, none⟩) := by rw [← hf]; exact g7
    clear hf g7 hd hsz
    unfold frame
    rw [g7']
    clear g7'
    simp only [Exit.inBlock, Exit.then, ↓reduceIte]
    go_wp2_with fail
    refine (alive4_any _).mono ?_
    rintro e w5 ⟨rfl, hb5⟩
    have HK5 := Lib.hid (HK.out.keep hb5)
    have HW5 := Lib.hid (HW.out.trans (hb5.mono HW.out.size))
    clear hb5
    go_wp2_with fail
    refine (HK5.out.apart HW5.out.size).mono ?_
    rintro e w6 ⟨rfl, hb6⟩
    have HW6 := Lib.hid (HW5.out.trans hb6)
    clear hb6
    go_wp2
    go_ret
    exact ⟨rfl, HW6.out⟩

set_option maxRecDepth 100000 in
theorem heapPlays_lifted (os : Os) (started : os.Started) (H : Type) (enc : TypeId × Value → H) :
    ReturnsInHanded {} Tryz.checked os 3 .any (Rows.heapPlaysSpec.pre6 enc Tryz.prog Tryz.f3 Rows.heapPlaysRow.domain false) (Rows.heapPlaysSpec.post enc Tryz.prog Tryz.f3 false true false false) := by
  refine returnsInHanded_of_change (C := Tryz.checked) own started (by kernel_rfl) Tryz.func3
    (ChangeSpec.witness6 (enc := enc) (C := Tryz.checked) false ⟨#[], #[.bool false, .slice none 0 0], []⟩ 8 (by kernel_rfl) (by kernel_rfl) (by kernel_rfl) (by kernel_rfl)) ?_
  intro W base args ds gs before hval0 hW _ _
  have hval : ∀ (j : Nat) t v, Tryz.f3.params[j]? = some t → args[j]? = some v → Value.okWide Tryz.prog W .any base t v := hval0
  have hW' := hW
  obtain ⟨p, q, hA0, hV, rfl, hfz, hnd⟩ := hW
  have hA : DataW.TrodAll enc Tryz.prog W 0 (fun _ => true) true Tryz.f3.params.toList args.toList ds p := hA0
  rw [Tryz.params3] at hA hval
  obtain ⟨v0, vs0, d0, ds0, p0, q0, hargs, rfl, rfl, h0, r0⟩ := trodAll_cons hA
  obtain ⟨v1, vs1, d1, ds1, p1, q1, rfl, rfl, rfl, h1, r1⟩ := trodAll_cons r0
  obtain ⟨rfl, rfl, rfl⟩ := trodAll_nil r1
  obtain rfl : args = #[v0, v1] := by cases args; simp_all
  obtain ⟨rfl, rfl⟩ := trodVars_none hV
  have k0 := h0
  have lt0 : ∀ x ∈ p0, x.block < W.heap.size := by obtain ⟨m, hm⟩ := k0; exact DataW.trod_lt m _ _ _ hm
  have k1 := h1
  have lt1 : ∀ x ∈ p1, x.block < W.heap.size := by obtain ⟨m, hm⟩ := k1; exact DataW.trod_lt m _ _ _ hm
  obtain ⟨a0, rfl, rfl, rfl⟩ := open_bool Tryz.underlying4 (hval 0 4 v0 rfl rfl) h0
  obtain ⟨a1, w1⟩ := ops4_open (hval 1 22 v1 rfl rfl) k1
  clear hA0 hval0
  refine (heapPlays_walk a0 v1 a1 W w1).mono fun e W' ⟨he, bel⟩ => ?_
  subst he
  exact ⟨_, rfl, _, _, _, [], _, [], hW', trodAll_mk1 (shut_bool Tryz.underlying4 _), (trodAll_cons_mk (Below.trod laidOut (by kernel_rfl) (of_decide_eq_true (by kernel_rfl)) k0 bel lt0) (trodAll_cons_mk (Below.trod laidOut (by kernel_rfl) (of_decide_eq_true (by kernel_rfl)) k1 bel lt1) trodAll_mk0)), rfl, bel.frame _, fun h => by cases h⟩

theorem heapPlays_said : Rows.HeapPlaysSaid :=
  OpenClaim.holds_of_wide 3 Tryz.f3 rfl rfl rfl rfl rfl rfl rfl ⟨rfl, rfl, rfl, rfl, rfl⟩ rfl rfl rfl rfl rfl (by kernel_rfl) Tryz.func3 (by kernel_rfl)
    (of_decide_eq_true (by kernel_rfl)) (by unfold Func.isWrapper; first | (rw [if_pos (by decide +kernel)]; kernel_rfl) | (rw [if_neg (by decide +kernel)]; exact ⟨rfl, rfl⟩))
    (fun os started H enc _ => heapPlays_lifted os started H enc)
#print axioms heapPlays_said
end Go.Proofs.YtfjpoadmbdjmnaaGreat
