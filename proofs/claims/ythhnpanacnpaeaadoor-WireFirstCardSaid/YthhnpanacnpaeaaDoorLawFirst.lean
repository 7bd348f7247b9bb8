/- The statement WireFirst of package wire: the first error stays, and nothing is put, or read, behind it; it holds of every texts and every number, where strconv's table is as the program's text lays it. -/
import Derived.Test.YthhnpanacnpaeaaDoorLaid
import Derived.Test.YthhnpanacnpaeaaDoorCards
import Derived.Test.YthhnpanacnpaeaaDoorTie
import Derived.ProofKit
import Derived.OpenShut
import Derived.ShutString
import Derived.ChangeOld
import Derived.Stop.Joined
namespace Go.Proofs.YthhnpanacnpaeaaDoor
open Go Go.RowKit Go.ChangeShapes Go.WideShapes Go.ChangeAt
open Go.ChangeMaps (open_string shut_string)
set_option maxRecDepth 100000

theorem wireFirst_walk (s : ByteArray) (_ws : s.size ≤ maxLen) (v : Int) (wv : (Lit.int .u64 v).wf = true) (b : ByteArray) (_wb : b.size ≤ maxLen) (w : World) (hT : Tab w) :
    Calls Tryd.prog 8 #[.string s, .int .u64 v, .string b] w fun e w' => e = .returned (.bool true) ∧ Below w.heap.size w w' := by
  obtain ⟨n, rfl, hv⟩ := wf_u64 wv
  have HV := Lib.hid hv
  clear wv hv _ws _wb
  by_cases hl : s.size ≤ 300 ∧ 2 ≤ s.size ∧ b.size ≤ 300
  · obtain ⟨l1, l2, l3⟩ := hl
    have d1 : decide (300 < (s.size : Int)) = false := by simp; omega
    have d2 : decide ((s.size : Int) < 2) = false := by simp; omega
    have d3 : decide (300 < (b.size : Int)) = false := by simp; omega
    have L2 := Lib.hid l2
    have L3 := Lib.hid l3
    clear l1 l2 l3
    go_enter Tryd.func8, Tryd.ntmps8
    go_wp2_with fail
    have h0 := Wr.zero w
    have b0 := (Below.refl w.heap.size w).alloc (Nat.le_refl _) (.cells #[.pointer none, .int .i64 0, .int .i64 0] 29)
    refine (wnum_any w.heap.size [] 0 n 8 _ h0 HV.out (by simp)).mono ?_
    rintro e w1 ⟨rfl, h1, o1⟩
    rw [wnum_full n HV.out] at h1
    have b1 := Below.then_only b0 o1 (Nat.le_refl _) b0.size
    clear b0 o1 h0
    go_wp2_with fail
    refine (wtext_any w.heap.size (leb 8 n) 0 s 1 _ h1 (by rw [leb_length]; omega)).mono ?_
    rintro e w2 ⟨rfl, h2, o2⟩
    rw [wtext_over _ _ (by rw [list_size]; exact L2.out)] at h2
    have b2 := Below.then_only b1 o2 (Nat.le_refl _) b1.size
    clear b1 o2 h1
    go_wp2_with fail
    refine (wnum_any w.heap.size [] 2 1 1 _ h2 (by omega) (by simp)).mono ?_
    rintro e w3 ⟨rfl, h3, o3⟩
    rw [show wnum 1 1 [] 2 = ([], 2) by decide] at h3
    have b3 := Below.then_only b2 o3 (Nat.le_refl _) b2.size
    clear b2 o3 h2
    go_wp2_with fail
    refine (wpad_any w.heap.size [] 2 (-1) _ h3 (by simp)).mono ?_
    rintro e w4 ⟨rfl, h4, o4⟩
    rw [show wpad (-1) [] 2 = ([], 2) by decide] at h4
    have b4 := Below.then_only b3 o4 (Nat.le_refl _) b3.size
    clear b3 o4 h3
    go_wp2_with fail
    refine (wflag_any w.heap.size [] 2 true _ h4 (by simp)).mono ?_
    rintro e w5 ⟨rfl, h5, o5⟩
    rw [show wnum (if true then 1 else 0) 1 [] 2 = ([], 2) by decide] at h5
    have b5 := Below.then_only b4 o5 (Nat.le_refl _) b4.size
    clear b4 o5 h4
    go_wp2_with fail
    refine (wbytes_bad w.heap.size [] 2 _ h5 (by omega)).mono ?_
    rintro e w6 ⟨rfl, o6⟩
    have b6 := b5.trans (o6.mono b5.size)
    clear b5 o6 h5
    have ht := str_toList []
    go_wp2_with fail
    clear ht
    refine (newreader_any b _).mono ?_
    rintro e w7 ⟨rfl, r7, o7⟩
    have b7 := b6.trans (o7.mono b6.size)
    clear o7
    have hp := b6.size
    clear b6
    generalize w6.heap.size = p at *
    go_wp2_with fail
    refine (rnum_any p b.data.toList 0 9 _ r7 (by rw [list_size]; have := L3.out; omega)).mono ?_
    rintro e w8 ⟨rfl, r8, o8⟩
    rw [show rnum 9 b.data.toList 0 = (0, [], 1) by simp [rnum]] at r8 ⊢
    have b8 := Below.then_only b7 o8 hp b7.size
    clear b7 o8 r7
    go_wp2_with fail
    refine (rerr_any p [] 1 _ r8).mono ?_
    rintro e w9 ⟨rfl, rfl⟩
    go_wp2_with fail
    refine (alive_any _ (hT.below b8)).mono ?_
    rintro e w9 ⟨rfl, o9⟩
    have b9 := b8.trans (o9.mono b8.size)
    have r9 := r8.below o9
    clear b8 o9 r8
    have ht := str_toList []
    go_wp2_with fail
    refine (rnum_any p [] 1 1 _ r9 (by simp)).mono ?_
    rintro e w10 ⟨rfl, r10, o10⟩
    rw [show rnum 1 [] 1 = (0, [], 1) by decide] at r10 ⊢
    have b10 := Below.then_only b9 o10 hp b9.size
    clear b9 o10 r9
    go_wp2_with fail
    refine (rtext_any p [] 1 300 _ r10 (by simp)).mono ?_
    rintro e w11 ⟨rfl, r11, o11⟩
    rw [show rtext 300 [] 1 = ([], [], 1) by decide] at r11 ⊢
    have b11 := Below.then_only b10 o11 hp b10.size
    clear b10 o11 r10
    go_wp2_with fail
    refine (rflag_any p [] 1 _ r11 (by simp)).mono ?_
    rintro e w12 ⟨rfl, r12, o12⟩
    rw [show rflag [] 1 = (false, [], 1) by decide] at r12 ⊢
    have b12 := Below.then_only b11 o12 hp b11.size
    clear b11 o12 r11
    go_wp2_with fail
    refine (rcount_any p [] 1 9 _ r12 (by simp)).mono ?_
    rintro e w13 ⟨rfl, r13, o13⟩
    rw [show rcount 9 [] 1 = (0, [], 1) by decide] at r13 ⊢
    have b13 := Below.then_only b12 o13 hp b12.size
    clear b12 o13 r12
    go_wp2_with fail
    refine (rerr_any p [] 1 _ r13).mono ?_
    rintro e w14 ⟨rfl, rfl⟩
    go_wp2_with fail
    refine (rend_any p [] 1 _ r13 (by simp)).mono ?_
    rintro e w14 ⟨rfl, rfl⟩
    rw [show rend [] 1 = 1 by decide]
    go_wp2
    go_ret
    exact ⟨rfl, b13⟩
  · have hl : 300 < s.size ∨ s.size < 2 ∨ 300 < b.size := by omega
    by_cases l1 : 300 < s.size
    · have d1 : decide (300 < (s.size : Int)) = true := by simp; omega
      clear hl l1
      go_enter Tryd.func8, Tryd.ntmps8
      go_wp2_with (go_at_call 12; refine (alive_any _ hT).mono ?_; rintro e w' ⟨rfl, hb⟩)
      go_ret
      exact ⟨rfl, hb⟩
    · have d1 : decide (300 < (s.size : Int)) = false := by simp; omega
      by_cases l2 : s.size < 2
      · have d2 : decide ((s.size : Int) < 2) = true := by simp; omega
        clear hl l1 l2
        go_enter Tryd.func8, Tryd.ntmps8
        go_wp2_with (go_at_call 12; refine (alive_any _ hT).mono ?_; rintro e w' ⟨rfl, hb⟩)
        go_ret
        exact ⟨rfl, hb⟩
      · have d2 : decide ((s.size : Int) < 2) = false := by simp; omega
        have d3 : decide (300 < (b.size : Int)) = true := by simp; omega
        clear hl l1 l2
        go_enter Tryd.func8, Tryd.ntmps8
        go_wp2_with (go_at_call 12; refine (alive_any _ hT).mono ?_; rintro e w' ⟨rfl, hb⟩)
        go_ret
        exact ⟨rfl, hb⟩

set_option maxRecDepth 100000 in
theorem wireFirst_lifted (os : Os) (started : os.Started) (H : Type) (enc : TypeId × Value → H) :
    ReturnsInHanded {} Tryd.checked os 8 .any (fun w args => (Rows.wireFirstSpec.pre enc Tryd.prog Tryd.f8 [] false w args ∧ laidMetH Tryd.prog Rows.wireFirstRow.laid w) ∧ sizedMet enc Tryd.prog Tryd.f8 (OpenSpec.ofChange Rows.wireFirstSpec) false w args)
      (Rows.wireFirstSpec.post enc Tryd.prog Tryd.f8 false true false false) := by
  refine returnsInHanded_of_change_and (C := Tryd.checked) (X := fun w _ => laidMetH Tryd.prog Rows.wireFirstRow.laid w) (fun _ _ _ hh h => h.of_heap hh) own started (by kernel_rfl) Tryd.func8
    (ChangeSpec.witness_shaped (enc := enc) (C := Tryd.checked) (os := os) (X := fun w _ => laidMetH Tryd.prog Rows.wireFirstRow.laid w) false (World.doorLaid Tryd.prog 400 os) #[.string ByteArray.empty, .int .u64 0, .string ByteArray.empty] 8 rfl (World.shaped_of_RefB (by kernel_rfl) (by kernel_rfl)) (by kernel_rfl) (by kernel_rfl) (by kernel_rfl) (laidMetH_of_plain (by kernel_rfl) (laidMet_of_run' 8 (by kernel_rfl) (by kernel_rfl)))) ?_
  intro W base args ds gs before hval0 hW _ hsz hL _
  have hval : ∀ (j : Nat) t v, Tryd.f8.params[j]? = some t → args[j]? = some v → Value.okWide Tryd.prog W .any base t v := hval0
  have hW' := hW
  obtain ⟨p, q, hA0, hV, rfl, hfz, hnd⟩ := hW
  have hA : DataW.TrodAll enc Tryd.prog W 0 (fun _ => true) true Tryd.f8.params.toList args.toList ds p := hA0
  rw [Tryd.params8] at hA hval
  obtain ⟨v0, vs0, d0, ds0, p0, q0, hargs, rfl, rfl, h0, r0⟩ := trodAll_cons hA
  obtain ⟨v1, vs1, d1, ds1, p1, q1, rfl, rfl, rfl, h1, r1⟩ := trodAll_cons r0
  obtain ⟨v2, vs2, d2, ds2, p2, q2, rfl, rfl, rfl, h2, r2⟩ := trodAll_cons r1
  obtain ⟨rfl, rfl, rfl⟩ := trodAll_nil r2
  obtain rfl : args = #[v0, v1, v2] := by cases args; simp_all
  obtain ⟨rfl, rfl⟩ := trodVars_none hV
  have k0 := h0
  have lt0 : ∀ x ∈ p0, x.block < W.heap.size := by obtain ⟨m, hm⟩ := k0; exact DataW.trod_lt m _ _ _ hm
  have k1 := h1
  have lt1 : ∀ x ∈ p1, x.block < W.heap.size := by obtain ⟨m, hm⟩ := k1; exact DataW.trod_lt m _ _ _ hm
  have k2 := h2
  have lt2 : ∀ x ∈ p2, x.block < W.heap.size := by obtain ⟨m, hm⟩ := k2; exact DataW.trod_lt m _ _ _ hm
  obtain ⟨a0, rfl, rfl, rfl, w0⟩ := open_string Tryd.underlying9 (hval 0 9 v0 rfl rfl) h0
  obtain ⟨a1, rfl, rfl, rfl, w1⟩ := open_int Tryd.underlying34 (hval 1 34 v1 rfl rfl) h1
  obtain ⟨a2, rfl, rfl, rfl, w2⟩ := open_string Tryd.underlying9 (hval 2 9 v2 rfl rfl) h2
  have hT : Tab W := tab_of_laid (by kernel_rfl) hL (by exact List.mem_cons_of_mem _ (List.mem_cons_of_mem _ (List.mem_cons_self)))
  clear hA0 hval0 hsz
  refine (wireFirst_walk a0 w0 a1 w1 a2 w2 W hT).mono fun e W' ⟨he, bel⟩ => ?_
  subst he
  exact ⟨_, rfl, _, _, _, [], _, [], hW', trodAll_mk1 (shut_bool Tryd.underlying4 _), (trodAll_cons_mk (Below.trod laidOut (by kernel_rfl) (of_decide_eq_true (by kernel_rfl)) k0 bel lt0) (trodAll_cons_mk (Below.trod laidOut (by kernel_rfl) (of_decide_eq_true (by kernel_rfl)) k1 bel lt1) (trodAll_cons_mk (Below.trod laidOut (by kernel_rfl) (of_decide_eq_true (by kernel_rfl)) k2 bel lt2) trodAll_mk0))), rfl, bel.frame _, fun h => by cases h⟩

theorem wireFirst_said : Rows.WireFirstSaid :=
  OpenClaim.holds_of_wide 8 Tryd.f8 rfl rfl rfl rfl rfl rfl rfl ⟨rfl, rfl, rfl, rfl, rfl⟩ rfl rfl rfl rfl rfl (by kernel_rfl) Tryd.func8 (by kernel_rfl)
    (of_decide_eq_true (by kernel_rfl)) (by unfold Func.isWrapper; first | (rw [if_pos (by decide +kernel)]; kernel_rfl) | (rw [if_neg (by decide +kernel)]; exact ⟨rfl, rfl⟩))
    (fun os started H enc _ => wireFirst_lifted os started H enc)

theorem wireFirst_holds : Rows.WireFirstCardSaid :=
  Claim7.holds_tied_plain_at .later [] [.data, .data, .data] true (true, "a3894e17570ffa024163006ff24429a9ca465d1b824b0f8a029644fd09ba0ccf") false
    wireFirst_said (fun _ h => by cases h) (by kernel_rfl) (fun _ h => by cases h) wireFirst_row_tie rfl ⟨rfl, rfl⟩ (by kernel_rfl) rfl
    (fun f fn hf hfn => by
      obtain rfl : f = 8 := Option.some.inj ((show Tryd.prog.funcNamed Rows.wireFirstRow.func = some 8 by kernel_rfl).symm.trans hf) |>.symm
      obtain rfl : fn = Tryd.f8 := (Option.some.inj (Tryd.func8.symm.trans hfn)).symm
      exact ⟨by kernel_rfl, fun j t ht => by
        rw [Tryd.params8] at ht
        have hm : t ∈ [9, 34, 9] := by simpa using Array.mem_of_getElem? ht
        have hall : ([9, 34, 9].all fun u => !Tryd.prog.wantsStandIn u) = true := by kernel_rfl
        exact (show Tryd.prog.wantsStandIn t = false by simpa using List.all_eq_true.1 hall t hm)⟩)
    (by kernel_rfl)
#print axioms wireFirst_holds
end Go.Proofs.YthhnpanacnpaeaaDoor
