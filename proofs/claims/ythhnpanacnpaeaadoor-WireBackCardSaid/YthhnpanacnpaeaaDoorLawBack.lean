/- The statement WireBack of package wire: what was put is read as it was, by the same calls, with bytes 0 behind it; it holds of every numbers, texts and flags, where strconv's table is as the program's text lays it. -/
import Derived.Test.YthhnpanacnpaeaaDoorWireL
import Derived.Test.YthhnpanacnpaeaaDoorCards
import Derived.Test.YthhnpanacnpaeaaDoorTie
import Derived.ProofKit
import Derived.OpenShut
import Derived.ShutString
import Derived.ChangeOld
import Derived.Stop.Joined
namespace Go.Proofs.YthhnpanacnpaeaaDoor
open Go Go.RowKit Go.ChangeShapes Go.WideShapes Go.ChangeAt
open Go.ChangeMaps (open_string shut_string)
set_option maxRecDepth 100000

theorem wireBack_fit (v m : Nat) (i : Int) (s : ByteArray) (f : Bool) (pad : Nat) (w : World) (hT : Tab w)
    (b6 : Bool) (d6 : ((m : Int) == 8) = b6) (X : Int) (dX : b6 = false → decide ((v : Int) < X) = true) (hX : b6 = false → ∀ W, Sem.run Tryd.prog (Op.shift BinOp.shl IntKind.u64 1 IntKind.i64 (wrap64 (8 * (m : Int)))) W = .ok (.int .u64 X) W)
    (HV : Hid ((v : Int) < 18446744073709551616)) (HF : Hid (v < 256 ^ m)) (HI : Hid (-9223372036854775808 ≤ i ∧ i ≤ 9223372036854775807))
    (d1 : decide (1000 < (s.size : Int)) = false) (HM1 : Hid (1 ≤ m)) (HM8 : Hid (m ≤ 8)) (d2 : decide ((m : Int) < 1) = false) (d3 : decide (8 < (m : Int)) = false) (d4 : decide ((pad : Int) < 0) = false) (d5 : decide (3000 < (pad : Int)) = false) (HS : Hid (s.size ≤ 1000)) (HP : Hid (pad ≤ 3000)) :
    Calls Tryd.prog 7 #[.int .u64 v, .int .i64 m, .int .i64 i, .string s, .bool f, .int .i64 pad] w fun e w' => e = .returned (.bool true) ∧ Below w.heap.size w w' := by
  go_enter Tryd.func7, Tryd.ntmps7
  go_wp2_with fail
  have hw := Wr.zero w
  have bb := (Below.refl w.heap.size w).alloc (Nat.le_refl _) (.cells #[.pointer none, .int .i64 0, .int .i64 0] 29)
  go_wp2_with fail
  refine (wnum_any w.heap.size [] 0 v m _ hw HV.out (by simp)).mono ?_
  rintro e w1 ⟨rfl, hw2, oo⟩
  rw [wnum_fit m v [] HM1.out HM8.out HF.out] at hw2
  have bb2 := Below.then_only bb oo (Nat.le_refl _) bb.size
  clear bb oo hw
  have bb := bb2
  have hw := hw2
  clear bb2 hw2
  go_wp2_with fail
  refine (wint_any w.heap.size (leb m v) 0 i _ hw (by rw [leb_length]; have := HM8.out; omega)).mono ?_
  rintro e w1 ⟨rfl, hw2, oo⟩
  rw [wint_fit i] at hw2
  have bb2 := Below.then_only bb oo (Nat.le_refl _) bb.size
  clear bb oo hw
  have bb := bb2
  have hw := hw2
  clear bb2 hw2
  go_wp2_with fail
  refine (wtext_any w.heap.size (leb m v ++ leb 8 (unsig i)) 0 s 1000 _ hw (by rw [List.length_append, leb_length, leb_length]; have := HM8.out; omega)).mono ?_
  rintro e w1 ⟨rfl, hw2, oo⟩
  rw [wtext_fit s.data.toList _ 1000 (by rw [list_size]; have := HS.out; omega) (by omega), list_size] at hw2
  have bb2 := Below.then_only bb oo (Nat.le_refl _) bb.size
  clear bb oo hw
  have bb := bb2
  have hw := hw2
  clear bb2 hw2
  go_wp2_with fail
  refine (wflag_any w.heap.size _ 0 f _ hw (by simp only [List.length_append, leb_length, list_size]; have := HM8.out; have := HS.out; omega)).mono ?_
  rintro e w1 ⟨rfl, hw2, oo⟩
  rw [wflag_fit f] at hw2
  have bb2 := Below.then_only bb oo (Nat.le_refl _) bb.size
  clear bb oo hw
  have bb := bb2
  have hw := hw2
  clear bb2 hw2
  obtain ⟨all, hall⟩ : ∃ l, l = leb m v ++ leb 8 (unsig i) ++ leb 2 s.size ++ s.data.toList ++ leb 1 (if f then 1 else 0) := ⟨_, rfl⟩
  have hal : all.length ≤ 2000 := by
    rw [hall]
    simp only [List.length_append, leb_length, list_size]
    have := HM8.out
    have := HS.out
    omega
  have hw2 : Wr w1 w.heap.size all 0 := by
    rw [hall]
    simpa [List.append_assoc] using hw
  have HA := Lib.hid hall
  have HL := Lib.hid hal
  clear hw hall hal
  have hw := hw2
  clear hw2
  go_wp2_with fail
  refine (wpad_any w.heap.size all 0 pad _ hw (by have := HL.out; omega)).mono ?_
  rintro e w1 ⟨rfl, hw2, oo⟩
  have bb2 := Below.then_only bb oo (Nat.le_refl _) bb.size
  clear bb oo hw
  have bb := bb2
  have hw := hw2
  clear bb2 hw2
  by_cases hp : all.length ≤ pad
  · rw [wpad_ok pad all (by have := HP.out; omega) hp] at hw
    obtain ⟨z, hz⟩ : ∃ z, z = pad - all.length := ⟨_, rfl⟩
    rw [← hz] at hw
    obtain ⟨tot, htot⟩ : ∃ l, l = all ++ List.replicate z 0 := ⟨_, rfl⟩
    have htl : tot.length = pad := by rw [htot, List.length_append, List.length_replicate]; omega
    have hz3 : z ≤ 3000 := by have := HP.out; omega
    have HZ := Lib.hid hz3
    rw [← htot] at hw
    have HT := Lib.hid htot
    have HN := Lib.hid htl
    have hsz : decide (pad ≤ (str tot).size) = true := by rw [str_size, htl]; simp
    clear htot htl hp hz hz3
    go_wp2_with fail
    refine (wbytes_ok w.heap.size tot _ hw (by rw [HN.out]; have := HP.out; omega)).mono ?_
    rintro e w1 ⟨rfl, oo⟩
    have bb2 := bb.trans (oo.mono bb.size)
    clear bb oo hw
    have bb := bb2
    clear bb2
    cases b6
    all_goals
      simp only [forall_const, reduceCtorEq, false_implies] at dX hX
      go_wp2_with fail
      refine (newreader_any _ _).mono ?_
      rintro e w1 ⟨rfl, hr, oo⟩
      have bb2 := bb.trans (oo.mono bb.size)
      have hp := bb.size
      clear bb oo
      have bb := bb2
      clear bb2
      rw [str_list, HT.out, HA.out, ← list_size s] at hr
      simp only [List.append_assoc] at hr
      have lim : (leb m v ++ (leb 8 (unsig i) ++ (leb 2 s.data.toList.length ++ (s.data.toList ++ (leb 1 (if f then 1 else 0) ++ List.replicate z 0))))).length ≤ 10000 := by
        simp only [List.length_append, leb_length, list_size, List.length_replicate]
        have := HM8.out
        have := HS.out
        have := HZ.out
        omega
      have LIM := Lib.hid lim
      clear lim
      go_wp2_with fail
      refine (alive_any _ (hT.below bb)).mono ?_
      rintro e w1 ⟨rfl, oo⟩
      have bb2 := bb.trans (oo.mono bb.size)
      have hr2 := hr.below oo
      clear bb oo hr
      have bb := bb2
      have hr := hr2
      clear bb2 hr2
      go_wp2_with fail
      refine (rnum_any _ _ 0 m _ hr (by have := LIM.out; omega)).mono ?_
      rintro e w1 ⟨rfl, hr2, oo⟩
      rw [rnum_leb m v _ HM1.out HM8.out HF.out] at hr2
      try rw [rnum_leb m v _ HM1.out HM8.out HF.out]
      have bb2 := Below.then_only bb oo hp bb.size
      clear bb oo hr
      have bb := bb2
      have hr := hr2
      clear bb2 hr2
      go_wp2_with fail
      refine (rint_any _ _ 0 _ hr (by have := LIM.out; simp only [List.length_append] at this ⊢; omega)).mono ?_
      rintro e w1 ⟨rfl, hr2, oo⟩
      rw [rint_leb i] at hr2
      try rw [rint_leb i]
      have bb2 := Below.then_only bb oo hp bb.size
      clear bb oo hr
      have bb := bb2
      have hr := hr2
      clear bb2 hr2
      rw [wrap_unsig i HI.out.1 HI.out.2]
      rw [← List.append_assoc (leb 2 s.data.toList.length)] at hr
      go_wp2_with fail
      refine (rtext_any _ _ 0 1000 _ hr (by have := LIM.out; simp only [List.length_append] at this ⊢; omega)).mono ?_
      rintro e w1 ⟨rfl, hr2, oo⟩
      rw [rtext_leb s.data.toList _ 1000 (by rw [list_size]; have := HS.out; omega) (by omega)] at hr2
      try rw [rtext_leb s.data.toList _ 1000 (by rw [list_size]; have := HS.out; omega) (by omega)]
      have bb2 := Below.then_only bb oo hp bb.size
      clear bb oo hr
      have bb := bb2
      have hr := hr2
      clear bb2 hr2
      rw [str_of]
      go_wp2_with fail
      refine (rflag_any _ _ 0 _ hr (by have := LIM.out; simp only [List.length_append] at this ⊢; omega)).mono ?_
      rintro e w1 ⟨rfl, hr2, oo⟩
      rw [rflag_leb f] at hr2
      try rw [rflag_leb f]
      have bb2 := Below.then_only bb oo hp bb.size
      clear bb oo hr
      have bb := bb2
      have hr := hr2
      clear bb2 hr2
      have hff : (f == f) = true := by simp
      go_wp2_with fail
      refine (rend_any _ _ 0 _ hr (by have := LIM.out; simp only [List.length_append] at this ⊢; omega)).mono ?_
      rintro e w2 ⟨rfl, rfl⟩
      rw [rend_replicate]
      go_wp2
      go_ret
      exact ⟨rfl, bb⟩
  · rw [wpad_short pad all (by have := HP.out; omega) (by omega)] at hw
    go_wp2_with fail
    refine (wbytes_bad w.heap.size [] 2 _ hw (by omega)).mono ?_
    rintro e w1 ⟨rfl, oo⟩
    have bb2 := bb.trans (oo.mono bb.size)
    clear bb oo hw
    have bb := bb2
    clear bb2
    have ht := str_toList []
    cases b6
    all_goals
      simp only [forall_const, reduceCtorEq, false_implies] at dX hX
      go_wp2_with fail
      refine (alive_any _ (hT.below bb)).mono ?_
      rintro e w1 ⟨rfl, oo⟩
      have bb2 := bb.trans (oo.mono bb.size)
      clear bb oo
      have bb := bb2
      clear bb2
      go_wp2
      go_ret
      exact ⟨rfl, bb⟩
theorem wireBack_more (v m : Nat) (i : Int) (s : ByteArray) (f : Bool) (pad : Int) (w : World) (hT : Tab w)
    (X : Int) (d6 : ((m : Int) == 8) = false) (dX : decide ((v : Int) < X) = false) (hX : ∀ W, Sem.run Tryd.prog (Op.shift BinOp.shl IntKind.u64 1 IntKind.i64 (wrap64 (8 * (m : Int)))) W = .ok (.int .u64 X) W)
    (HV : Hid ((v : Int) < 18446744073709551616)) (HF : Hid (¬ v < 256 ^ m))
    (d1 : decide (1000 < (s.size : Int)) = false) (d2 : decide ((m : Int) < 1) = false) (d3 : decide (8 < (m : Int)) = false) (d4 : decide (pad < 0) = false) (d5 : decide (3000 < pad) = false) (_HP : Hid (pad ≤ 3000)) :
    Calls Tryd.prog 7 #[.int .u64 v, .int .i64 m, .int .i64 i, .string s, .bool f, .int .i64 pad] w fun e w' => e = .returned (.bool true) ∧ Below w.heap.size w w' := by
  go_enter Tryd.func7, Tryd.ntmps7
  go_wp2_with fail
  have hw := Wr.zero w
  have bb := (Below.refl w.heap.size w).alloc (Nat.le_refl _) (.cells #[.pointer none, .int .i64 0, .int .i64 0] 29)
  go_wp2_with fail
  refine (wnum_any w.heap.size [] 0 v m _ hw HV.out (by simp)).mono ?_
  rintro e w1 ⟨rfl, hw2, oo⟩
  rw [wnum_more_eq m v [] HF.out] at hw2
  have bb2 := Below.then_only bb oo (Nat.le_refl _) bb.size
  clear bb oo hw
  have bb := bb2
  have hw := hw2
  clear bb2 hw2
  go_wp2_with fail
  refine (wint_any w.heap.size [] 1 i _ hw (by simp)).mono ?_
  rintro e w1 ⟨rfl, hw2, oo⟩
  rw [show wnum (unsig i) 8 [] 1 = ([], 1) by simp [wnum]] at hw2
  have bb2 := Below.then_only bb oo (Nat.le_refl _) bb.size
  clear bb oo hw
  have bb := bb2
  have hw := hw2
  clear bb2 hw2
  go_wp2_with fail
  refine (wtext_any w.heap.size [] 1 s 1000 _ hw (by simp)).mono ?_
  rintro e w1 ⟨rfl, hw2, oo⟩
  rw [show wtext s.data.toList 1000 [] 1 = ([], 1) by simp [wtext]] at hw2
  have bb2 := Below.then_only bb oo (Nat.le_refl _) bb.size
  clear bb oo hw
  have bb := bb2
  have hw := hw2
  clear bb2 hw2
  go_wp2_with fail
  refine (wflag_any w.heap.size [] 1 f _ hw (by simp)).mono ?_
  rintro e w1 ⟨rfl, hw2, oo⟩
  rw [show wnum (if f then 1 else 0) 1 [] 1 = ([], 1) by simp [wnum]] at hw2
  have bb2 := Below.then_only bb oo (Nat.le_refl _) bb.size
  clear bb oo hw
  have bb := bb2
  have hw := hw2
  clear bb2 hw2
  go_wp2_with fail
  refine (wpad_any w.heap.size [] 1 pad _ hw (by simp)).mono ?_
  rintro e w1 ⟨rfl, hw2, oo⟩
  rw [show wpad pad [] 1 = ([], 1) by simp [wpad]] at hw2
  have bb2 := Below.then_only bb oo (Nat.le_refl _) bb.size
  clear bb oo hw
  have bb := bb2
  have hw := hw2
  clear bb2 hw2
  go_wp2_with fail
  refine (wbytes_bad w.heap.size [] 1 _ hw (by omega)).mono ?_
  rintro e w1 ⟨rfl, oo⟩
  have bb2 := bb.trans (oo.mono bb.size)
  clear bb oo hw
  have bb := bb2
  clear bb2
  have ht := str_toList []
  go_wp2_with fail
  refine (alive_any _ (hT.below bb)).mono ?_
  rintro e w1 ⟨rfl, oo⟩
  have bb2 := bb.trans (oo.mono bb.size)
  clear bb oo
  have bb := bb2
  clear bb2
  go_wp2
  go_ret
  exact ⟨rfl, bb⟩
theorem wireBack_walk (v : Int) (wv : (Lit.int .u64 v).wf = true) (n : Int) (_wn : (Lit.int .i64 n).wf = true) (i : Int) (wi : (Lit.int .i64 i).wf = true) (s : ByteArray) (_ws : s.size ≤ maxLen) (f : Bool) (pad : Int) (_wp : (Lit.int .i64 pad).wf = true) (w : World) (hT : Tab w) :
    Calls Tryd.prog 7 #[.int .u64 v, .int .i64 n, .int .i64 i, .string s, .bool f, .int .i64 pad] w fun e w' => e = .returned (.bool true) ∧ Below w.heap.size w w' := by
  obtain ⟨v, rfl, hv⟩ := wf_u64 wv
  have HI := Lib.hid (wf_i64 wi)
  have HV := Lib.hid hv
  clear wv _wn wi _ws _wp hv
  have tail : ∀ b1 b2 b3 b4 b5, decide (1000 < (s.size : Int)) = b1 → decide (n < 1) = b2 → decide (8 < n) = b3 → decide (pad < 0) = b4 → decide (3000 < pad) = b5 → (b1 || b2 || b3 || b4 || b5) = true →
      Calls Tryd.prog 7 #[.int .u64 v, .int .i64 n, .int .i64 i, .string s, .bool f, .int .i64 pad] w fun e w' => e = .returned (.bool true) ∧ Below w.heap.size w w' := by
    intro b1 b2 b3 b4 b5 d1 d2 d3 d4 d5 hb
    cases b1 <;> cases b2 <;> cases b3 <;> cases b4 <;> cases b5 <;> first
      | (exact absurd hb (by decide))
      | (clear hb
         go_enter Tryd.func7, Tryd.ntmps7
         go_wp2_with (go_at_call 12; refine (alive_any _ hT).mono ?_; rintro e w' ⟨rfl, hb⟩)
         go_ret
         exact ⟨rfl, hb⟩)
  by_cases hc : s.size ≤ 1000 ∧ 1 ≤ n ∧ n ≤ 8 ∧ 0 ≤ pad ∧ pad ≤ 3000
  · obtain ⟨c1, c2, c3, c4, c5⟩ := hc
    obtain ⟨m, rfl⟩ := Int.eq_ofNat_of_zero_le (show 0 ≤ n by omega)
    obtain ⟨k, rfl⟩ := Int.eq_ofNat_of_zero_le c4
    clear tail
    by_cases hf : v < 256 ^ m
    · refine wireBack_fit v m i s f k w hT ((m : Int) == 8) rfl ((256 ^ m : Nat) : Int) (fun _ => by simp only [decide_eq_true_eq]; exact_mod_cast hf) (fun hb W => shl_run _ m ?_ W) HV hf HI (by simp; omega) (show 1 ≤ m by omega) (show m ≤ 8 by omega) (by simp; omega) (by simp; omega) (by simp) (by simp; omega) c1 (show k ≤ 3000 by omega)
      simp at hb
      omega
    · have h8 : m < 8 := by
        by_cases h8 : m < 8
        · exact h8
        · obtain rfl : m = 8 := by omega
          have e : (256 : Nat) ^ 8 = 18446744073709551616 := by decide
          have := HV.out
          exact absurd (show v < 256 ^ 8 by omega) hf
      exact wireBack_more v m i s f k w hT ((256 ^ m : Nat) : Int) (by simp; omega) (by simp only [decide_eq_false_iff_not]; exact_mod_cast hf) (fun W => shl_run _ m h8 W) HV hf (by simp; omega) (by simp; omega) (by simp; omega) (by simp) (by simp; omega) (show (k : Int) ≤ 3000 by omega)
  · refine tail _ _ _ _ _ rfl rfl rfl rfl rfl ?_
    simp only [Bool.or_eq_true, decide_eq_true_eq]
    omega

set_option maxRecDepth 100000 in
theorem wireBack_lifted (os : Os) (started : os.Started) (H : Type) (enc : TypeId × Value → H) :
    ReturnsInHanded {} Tryd.checked os 7 .any (fun w args => (Rows.wireBackSpec.pre enc Tryd.prog Tryd.f7 [] false w args ∧ laidMetH Tryd.prog Rows.wireBackRow.laid w) ∧ sizedMet enc Tryd.prog Tryd.f7 (OpenSpec.ofChange Rows.wireBackSpec) false w args)
      (Rows.wireBackSpec.post enc Tryd.prog Tryd.f7 false true false false) := by
  refine returnsInHanded_of_change_and (C := Tryd.checked) (X := fun w _ => laidMetH Tryd.prog Rows.wireBackRow.laid w) (fun _ _ _ hh h => h.of_heap hh) own started (by kernel_rfl) Tryd.func7
    (ChangeSpec.witness_shaped (enc := enc) (C := Tryd.checked) (os := os) (X := fun w _ => laidMetH Tryd.prog Rows.wireBackRow.laid w) false (World.doorLaid Tryd.prog 400 os) #[.int .u64 0, .int .i64 0, .int .i64 0, .string ByteArray.empty, .bool false, .int .i64 0] 8 rfl (World.shaped_of_RefB (by kernel_rfl) (by kernel_rfl)) (by kernel_rfl) (by kernel_rfl) (by kernel_rfl) (laidMetH_of_plain (by kernel_rfl) (laidMet_of_run' 8 (by kernel_rfl) (by kernel_rfl)))) ?_
  intro W base args ds gs before hval0 hW _ hsz hL _
  have hval : ∀ (j : Nat) t v, Tryd.f7.params[j]? = some t → args[j]? = some v → Value.okWide Tryd.prog W .any base t v := hval0
  have hW' := hW
  obtain ⟨p, q, hA0, hV, rfl, hfz, hnd⟩ := hW
  have hA : DataW.TrodAll enc Tryd.prog W 0 (fun _ => true) true Tryd.f7.params.toList args.toList ds p := hA0
  rw [Tryd.params7] at hA hval
  obtain ⟨v0, vs0, d0, ds0, p0, q0, hargs, rfl, rfl, h0, r0⟩ := trodAll_cons hA
  obtain ⟨v1, vs1, d1, ds1, p1, q1, rfl, rfl, rfl, h1, r1⟩ := trodAll_cons r0
  obtain ⟨v2, vs2, d2, ds2, p2, q2, rfl, rfl, rfl, h2, r2⟩ := trodAll_cons r1
  obtain ⟨v3, vs3, d3, ds3, p3, q3, rfl, rfl, rfl, h3, r3⟩ := trodAll_cons r2
  obtain ⟨v4, vs4, d4, ds4, p4, q4, rfl, rfl, rfl, h4, r4⟩ := trodAll_cons r3
  obtain ⟨v5, vs5, d5, ds5, p5, q5, rfl, rfl, rfl, h5, r5⟩ := trodAll_cons r4
  obtain ⟨rfl, rfl, rfl⟩ := trodAll_nil r5
  obtain rfl : args = #[v0, v1, v2, v3, v4, v5] := by cases args; simp_all
  obtain ⟨rfl, rfl⟩ := trodVars_none hV
  have k0 := h0
  have lt0 : ∀ x ∈ p0, x.block < W.heap.size := by obtain ⟨m, hm⟩ := k0; exact DataW.trod_lt m _ _ _ hm
  have k1 := h1
  have lt1 : ∀ x ∈ p1, x.block < W.heap.size := by obtain ⟨m, hm⟩ := k1; exact DataW.trod_lt m _ _ _ hm
  have k2 := h2
  have lt2 : ∀ x ∈ p2, x.block < W.heap.size := by obtain ⟨m, hm⟩ := k2; exact DataW.trod_lt m _ _ _ hm
  have k3 := h3
  have lt3 : ∀ x ∈ p3, x.block < W.heap.size := by obtain ⟨m, hm⟩ := k3; exact DataW.trod_lt m _ _ _ hm
  have k4 := h4
  have lt4 : ∀ x ∈ p4, x.block < W.heap.size := by obtain ⟨m, hm⟩ := k4; exact DataW.trod_lt m _ _ _ hm
  have k5 := h5
  have lt5 : ∀ x ∈ p5, x.block < W.heap.size := by obtain ⟨m, hm⟩ := k5; exact DataW.trod_lt m _ _ _ hm
  obtain ⟨a0, rfl, rfl, rfl, w0⟩ := open_int Tryd.underlying34 (hval 0 34 v0 rfl rfl) h0
  obtain ⟨a1, rfl, rfl, rfl, w1⟩ := open_int Tryd.underlying3 (hval 1 3 v1 rfl rfl) h1
  obtain ⟨a2, rfl, rfl, rfl, w2⟩ := open_int Tryd.underlying3 (hval 2 3 v2 rfl rfl) h2
  obtain ⟨a3, rfl, rfl, rfl, w3⟩ := open_string Tryd.underlying9 (hval 3 9 v3 rfl rfl) h3
  obtain ⟨a4, rfl, rfl, rfl⟩ := open_bool Tryd.underlying4 (hval 4 4 v4 rfl rfl) h4
  obtain ⟨a5, rfl, rfl, rfl, w5⟩ := open_int Tryd.underlying3 (hval 5 3 v5 rfl rfl) h5
  have hT : Tab W := tab_of_laid (by kernel_rfl) hL (by exact List.mem_cons_of_mem _ (List.mem_cons_of_mem _ (List.mem_cons_self)))
  clear hA0 hval0 hsz
  refine (wireBack_walk a0 w0 a1 w1 a2 w2 a3 w3 a4 a5 w5 W hT).mono fun e W' ⟨he, bel⟩ => ?_
  subst he
  exact ⟨_, rfl, _, _, _, [], _, [], hW', trodAll_mk1 (shut_bool Tryd.underlying4 _), (trodAll_cons_mk (Below.trod laidOut (by kernel_rfl) (of_decide_eq_true (by kernel_rfl)) k0 bel lt0) (trodAll_cons_mk (Below.trod laidOut (by kernel_rfl) (of_decide_eq_true (by kernel_rfl)) k1 bel lt1) (trodAll_cons_mk (Below.trod laidOut (by kernel_rfl) (of_decide_eq_true (by kernel_rfl)) k2 bel lt2) (trodAll_cons_mk (Below.trod laidOut (by kernel_rfl) (of_decide_eq_true (by kernel_rfl)) k3 bel lt3) (trodAll_cons_mk (Below.trod laidOut (by kernel_rfl) (of_decide_eq_true (by kernel_rfl)) k4 bel lt4) (trodAll_cons_mk (Below.trod laidOut (by kernel_rfl) (of_decide_eq_true (by kernel_rfl)) k5 bel lt5) trodAll_mk0)))))), rfl, bel.frame _, fun h => by cases h⟩

theorem wireBack_said : Rows.WireBackSaid :=
  OpenClaim.holds_of_wide 7 Tryd.f7 rfl rfl rfl rfl rfl rfl rfl ⟨rfl, rfl, rfl, rfl, rfl⟩ rfl rfl rfl rfl rfl (by kernel_rfl) Tryd.func7 (by kernel_rfl)
    (of_decide_eq_true (by kernel_rfl)) (by unfold Func.isWrapper; first | (rw [if_pos (by decide +kernel)]; kernel_rfl) | (rw [if_neg (by decide +kernel)]; exact ⟨rfl, rfl⟩))
    (fun os started H enc _ => wireBack_lifted os started H enc)

theorem wireBack_holds : Rows.WireBackCardSaid :=
  Claim7.holds_tied_plain_at .later [] [.data, .data, .data] true (true, "a3894e17570ffa024163006ff24429a9ca465d1b824b0f8a029644fd09ba0ccf") false
    wireBack_said (fun _ h => by cases h) (by kernel_rfl) (fun _ h => by cases h) wireBack_row_tie rfl ⟨rfl, rfl⟩ (by kernel_rfl) rfl
    (fun f fn hf hfn => by
      obtain rfl : f = 7 := Option.some.inj ((show Tryd.prog.funcNamed Rows.wireBackRow.func = some 7 by kernel_rfl).symm.trans hf) |>.symm
      obtain rfl : fn = Tryd.f7 := (Option.some.inj (Tryd.func7.symm.trans hfn)).symm
      exact ⟨by kernel_rfl, fun j t ht => by
        rw [Tryd.params7] at ht
        have hm : t ∈ [34, 3, 3, 9, 4, 3] := by simpa using Array.mem_of_getElem? ht
        have hall : ([34, 3, 3, 9, 4, 3].all fun u => !Tryd.prog.wantsStandIn u) = true := by kernel_rfl
        exact (show Tryd.prog.wantsStandIn t = false by simpa using List.all_eq_true.1 hall t hm)⟩)
    (by kernel_rfl)
#print axioms wireBack_holds
end Go.Proofs.YthhnpanacnpaeaaDoor
