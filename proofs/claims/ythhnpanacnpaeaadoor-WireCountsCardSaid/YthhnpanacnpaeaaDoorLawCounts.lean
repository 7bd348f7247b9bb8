/- The statement WireCounts of package wire: how many there are is told up to a bound, and refused above it; it holds of every two ints, where strconv's table is as the program's text lays it. -/
import Derived.Test.YthhnpanacnpaeaaDoorWireL
import Derived.Test.YthhnpanacnpaeaaDoorCards
import Derived.Test.YthhnpanacnpaeaaDoorTie
import Derived.ProofKit
import Derived.OpenShut
import Derived.ShutString
import Derived.ChangeOld
import Derived.Stop.Joined
namespace Go.Proofs.YthhnpanacnpaeaaDoor
open Go Go.RowKit Go.ChangeShapes Go.WideShapes Go.ChangeAt
open Go.ChangeMaps (open_string shut_string)
set_option maxRecDepth 100000

theorem wireCounts_walk (n : Int) (_wn : (Lit.int .i64 n).wf = true) (most : Int) (_wm : (Lit.int .i64 most).wf = true) (w : World) (hT : Tab w) :
    Calls Tryd.prog 9 #[.int .i64 n, .int .i64 most] w fun e w' => e = .returned (.bool true) ∧ Below w.heap.size w w' := by
  by_cases h0 : n < 0
  · have d1 : decide (n < 0) = true := by simp; omega
    clear _wn _wm
    go_enter Tryd.func9, Tryd.ntmps9
    go_wp2_with (go_at_call 12; refine (alive_any _ hT).mono ?_; rintro e w' ⟨rfl, hb⟩)
    go_ret
    exact ⟨rfl, hb⟩
  · obtain ⟨m, rfl⟩ := Int.eq_ofNat_of_zero_le (show 0 ≤ n by omega)
    by_cases h1 : 65535 < m
    · have d1 : decide (65535 < (m : Int)) = true := by simp; omega
      clear _wn _wm h0
      go_enter Tryd.func9, Tryd.ntmps9
      go_wp2_with (go_at_call 12; refine (alive_any _ hT).mono ?_; rintro e w' ⟨rfl, hb⟩)
      go_ret
      exact ⟨rfl, hb⟩
    · have hm : (m : Int) ≤ 65535 := by omega
      clear _wn _wm h0 h1
      by_cases h2 : most < (m : Int)
      · go_enter Tryd.func9, Tryd.ntmps9
        go_wp2_with fail
        have hw := Wr.zero w
        have bb := (Below.refl w.heap.size w).alloc (Nat.le_refl _) (.cells #[.pointer none, .int .i64 0, .int .i64 0] 29)
        go_wp2_with fail
        refine (wnum_any w.heap.size [] 0 m 2 _ hw (by omega) (by simp)).mono ?_
        rintro e w1 ⟨rfl, hw2, oo⟩
        rw [show wnum m 2 [] 0 = (leb 2 m, 0) from wnum_fit 2 m [] (by omega) (by omega) (by omega)] at hw2
        have bb2 := Below.then_only bb oo (Nat.le_refl _) bb.size
        clear bb oo hw
        have bb := bb2
        have hw := hw2
        clear bb2 hw2
        go_wp2_with fail
        refine (wbytes_ok w.heap.size (leb 2 m) _ hw (by rw [leb_length]; omega)).mono ?_
        rintro e w1 ⟨rfl, oo⟩
        have bb2 := bb.trans (oo.mono bb.size)
        clear bb oo hw
        have bb := bb2
        clear bb2
        go_wp2_with fail
        refine (newreader_any _ _).mono ?_
        rintro e w1 ⟨rfl, hr, oo⟩
        have bb2 := bb.trans (oo.mono bb.size)
        have hp := bb.size
        clear bb oo
        have bb := bb2
        clear bb2
        rw [str_list] at hr
        go_wp2_with fail
        refine (rcount_any _ (leb 2 m) 0 most _ hr (by rw [leb_length]; omega)).mono ?_
        rintro e w1 ⟨rfl, hr2, oo⟩
        rw [show rcount most (leb 2 m) 0 = (0, [], 2) by have := rcount_over m most [] (by omega) h2; rwa [List.append_nil] at this] at hr2
        try rw [show rcount most (leb 2 m) 0 = (0, [], 2) by have := rcount_over m most [] (by omega) h2; rwa [List.append_nil] at this]
        have bb2 := Below.then_only bb oo hp bb.size
        clear bb oo hr
        have bb := bb2
        have hr := hr2
        clear bb2 hr2
        go_wp2_with fail
        refine (alive_any _ (hT.below bb)).mono ?_
        rintro e w1 ⟨rfl, oo⟩
        have bb2 := bb.trans (oo.mono bb.size)
        have hr2 := hr.below oo
        clear bb oo hr
        have bb := bb2
        have hr := hr2
        clear bb2 hr2
        go_wp2_with fail
        refine (rerr_any _ [] 2 _ hr).mono ?_
        rintro e w2 ⟨rfl, rfl⟩
        go_wp2
        go_ret
        exact ⟨rfl, bb⟩
      · have h2 : (m : Int) ≤ most := by omega
        go_enter Tryd.func9, Tryd.ntmps9
        go_wp2_with fail
        have hw := Wr.zero w
        have bb := (Below.refl w.heap.size w).alloc (Nat.le_refl _) (.cells #[.pointer none, .int .i64 0, .int .i64 0] 29)
        go_wp2_with fail
        refine (wnum_any w.heap.size [] 0 m 2 _ hw (by omega) (by simp)).mono ?_
        rintro e w1 ⟨rfl, hw2, oo⟩
        rw [show wnum m 2 [] 0 = (leb 2 m, 0) from wnum_fit 2 m [] (by omega) (by omega) (by omega)] at hw2
        have bb2 := Below.then_only bb oo (Nat.le_refl _) bb.size
        clear bb oo hw
        have bb := bb2
        have hw := hw2
        clear bb2 hw2
        go_wp2_with fail
        refine (wbytes_ok w.heap.size (leb 2 m) _ hw (by rw [leb_length]; omega)).mono ?_
        rintro e w1 ⟨rfl, oo⟩
        have bb2 := bb.trans (oo.mono bb.size)
        clear bb oo hw
        have bb := bb2
        clear bb2
        go_wp2_with fail
        refine (newreader_any _ _).mono ?_
        rintro e w1 ⟨rfl, hr, oo⟩
        have bb2 := bb.trans (oo.mono bb.size)
        have hp := bb.size
        clear bb oo
        have bb := bb2
        clear bb2
        rw [str_list] at hr
        go_wp2_with fail
        refine (rcount_any _ (leb 2 m) 0 most _ hr (by rw [leb_length]; omega)).mono ?_
        rintro e w1 ⟨rfl, hr2, oo⟩
        rw [show rcount most (leb 2 m) 0 = (m, [], 0) by have := rcount_leb m most [] (by omega) h2; rwa [List.append_nil] at this] at hr2
        try rw [show rcount most (leb 2 m) 0 = (m, [], 0) by have := rcount_leb m most [] (by omega) h2; rwa [List.append_nil] at this]
        have bb2 := Below.then_only bb oo hp bb.size
        clear bb oo hr
        have bb := bb2
        have hr := hr2
        clear bb2 hr2
        go_wp2_with fail
        refine (alive_any _ (hT.below bb)).mono ?_
        rintro e w1 ⟨rfl, oo⟩
        have bb2 := bb.trans (oo.mono bb.size)
        have hr2 := hr.below oo
        clear bb oo hr
        have bb := bb2
        have hr := hr2
        clear bb2 hr2
        go_wp2_with fail
        refine (rend_any _ [] 0 _ hr (by simp)).mono ?_
        rintro e w2 ⟨rfl, rfl⟩
        rw [show rend [] 0 = 0 by decide]
        go_wp2
        go_ret
        exact ⟨rfl, bb⟩

set_option maxRecDepth 100000 in
theorem wireCounts_lifted (os : Os) (started : os.Started) (H : Type) (enc : TypeId × Value → H) :
    ReturnsInHanded {} Tryd.checked os 9 .any (fun w args => (Rows.wireCountsSpec.pre enc Tryd.prog Tryd.f9 [] false w args ∧ laidMetH Tryd.prog Rows.wireCountsRow.laid w) ∧ sizedMet enc Tryd.prog Tryd.f9 (OpenSpec.ofChange Rows.wireCountsSpec) false w args)
      (Rows.wireCountsSpec.post enc Tryd.prog Tryd.f9 false true false false) := by
  refine returnsInHanded_of_change_and (C := Tryd.checked) (X := fun w _ => laidMetH Tryd.prog Rows.wireCountsRow.laid w) (fun _ _ _ hh h => h.of_heap hh) own started (by kernel_rfl) Tryd.func9
    (ChangeSpec.witness_shaped (enc := enc) (C := Tryd.checked) (os := os) (X := fun w _ => laidMetH Tryd.prog Rows.wireCountsRow.laid w) false (World.doorLaid Tryd.prog 400 os) #[.int .i64 0, .int .i64 0] 8 rfl (World.shaped_of_RefB (by kernel_rfl) (by kernel_rfl)) (by kernel_rfl) (by kernel_rfl) (by kernel_rfl) (laidMetH_of_plain (by kernel_rfl) (laidMet_of_run' 8 (by kernel_rfl) (by kernel_rfl)))) ?_
  intro W base args ds gs before hval0 hW _ hsz hL _
  have hval : ∀ (j : Nat) t v, Tryd.f9.params[j]? = some t → args[j]? = some v → Value.okWide Tryd.prog W .any base t v := hval0
  have hW' := hW
  obtain ⟨p, q, hA0, hV, rfl, hfz, hnd⟩ := hW
  have hA : DataW.TrodAll enc Tryd.prog W 0 (fun _ => true) true Tryd.f9.params.toList args.toList ds p := hA0
  rw [Tryd.params9] at hA hval
  obtain ⟨v0, vs0, d0, ds0, p0, q0, hargs, rfl, rfl, h0, r0⟩ := trodAll_cons hA
  obtain ⟨v1, vs1, d1, ds1, p1, q1, rfl, rfl, rfl, h1, r1⟩ := trodAll_cons r0
  obtain ⟨rfl, rfl, rfl⟩ := trodAll_nil r1
  obtain rfl : args = #[v0, v1] := by cases args; simp_all
  obtain ⟨rfl, rfl⟩ := trodVars_none hV
  have k0 := h0
  have lt0 : ∀ x ∈ p0, x.block < W.heap.size := by obtain ⟨m, hm⟩ := k0; exact DataW.trod_lt m _ _ _ hm
  have k1 := h1
  have lt1 : ∀ x ∈ p1, x.block < W.heap.size := by obtain ⟨m, hm⟩ := k1; exact DataW.trod_lt m _ _ _ hm
  obtain ⟨a0, rfl, rfl, rfl, w0⟩ := open_int Tryd.underlying3 (hval 0 3 v0 rfl rfl) h0
  obtain ⟨a1, rfl, rfl, rfl, w1⟩ := open_int Tryd.underlying3 (hval 1 3 v1 rfl rfl) h1
  have hT : Tab W := tab_of_laid (by kernel_rfl) hL (by exact List.mem_cons_of_mem _ (List.mem_cons_of_mem _ (List.mem_cons_self)))
  clear hA0 hval0 hsz
  refine (wireCounts_walk a0 w0 a1 w1 W hT).mono fun e W' ⟨he, bel⟩ => ?_
  subst he
  exact ⟨_, rfl, _, _, _, [], _, [], hW', trodAll_mk1 (shut_bool Tryd.underlying4 _), (trodAll_cons_mk (Below.trod laidOut (by kernel_rfl) (of_decide_eq_true (by kernel_rfl)) k0 bel lt0) (trodAll_cons_mk (Below.trod laidOut (by kernel_rfl) (of_decide_eq_true (by kernel_rfl)) k1 bel lt1) trodAll_mk0)), rfl, bel.frame _, fun h => by cases h⟩

theorem wireCounts_said : Rows.WireCountsSaid :=
  OpenClaim.holds_of_wide 9 Tryd.f9 rfl rfl rfl rfl rfl rfl rfl ⟨rfl, rfl, rfl, rfl, rfl⟩ rfl rfl rfl rfl rfl (by kernel_rfl) Tryd.func9 (by kernel_rfl)
    (of_decide_eq_true (by kernel_rfl)) (by unfold Func.isWrapper; first | (rw [if_pos (by decide +kernel)]; kernel_rfl) | (rw [if_neg (by decide +kernel)]; exact ⟨rfl, rfl⟩))
    (fun os started H enc _ => wireCounts_lifted os started H enc)

theorem wireCounts_holds : Rows.WireCountsCardSaid :=
  Claim7.holds_tied_plain_at .later [] [.data, .data, .data] true (true, "a3894e17570ffa024163006ff24429a9ca465d1b824b0f8a029644fd09ba0ccf") false
    wireCounts_said (fun _ h => by cases h) (by kernel_rfl) (fun _ h => by cases h) wireCounts_row_tie rfl ⟨rfl, rfl⟩ (by kernel_rfl) rfl
    (fun f fn hf hfn => by
      obtain rfl : f = 9 := Option.some.inj ((show Tryd.prog.funcNamed Rows.wireCountsRow.func = some 9 by kernel_rfl).symm.trans hf) |>.symm
      obtain rfl : fn = Tryd.f9 := (Option.some.inj (Tryd.func9.symm.trans hfn)).symm
      exact ⟨by kernel_rfl, fun j t ht => by
        rw [Tryd.params9] at ht
        have hm : t ∈ [3, 3] := by simpa using Array.mem_of_getElem? ht
        have hall : ([3, 3].all fun u => !Tryd.prog.wantsStandIn u) = true := by kernel_rfl
        exact (show Tryd.prog.wantsStandIn t = false by simpa using List.all_eq_true.1 hall t hm)⟩)
    (by kernel_rfl)
#print axioms wireCounts_holds
end Go.Proofs.YthhnpanacnpaeaaDoor
