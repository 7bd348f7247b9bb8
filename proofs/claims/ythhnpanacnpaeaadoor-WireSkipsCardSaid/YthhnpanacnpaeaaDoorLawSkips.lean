/- The statement WireSkips of package wire: what is padded is bytes 0, and is skipped; another byte there is refused; it holds of every texts and ints, where strconv's table is as the program's text lays it. -/
import Derived.Test.YthhnpanacnpaeaaDoorWireL
import Derived.Test.YthhnpanacnpaeaaDoorCards
import Derived.Test.YthhnpanacnpaeaaDoorTie
import Derived.ProofKit
import Derived.OpenShut
import Derived.ShutString
import Derived.ChangeOld
import Derived.Stop.Joined
namespace Go.Proofs.YthhnpanacnpaeaaDoor
open Go Go.RowKit Go.ChangeShapes Go.WideShapes Go.ChangeAt
open Go.ChangeMaps (open_string shut_string)
set_option maxRecDepth 100000

theorem pad_eq (a d : Nat) (bs tot : List UInt8) (hb : bs.length = a + 2) (ha : a + d ≤ 600) (ht : tot = bs ++ List.replicate d 0) : wpad ((a : Int) + (d : Int) + 2) bs 0 = (tot, 0) := by
  rw [show ((a : Int) + (d : Int) + 2) = ((a + d + 2 : Nat) : Int) by omega, wpad_ok (a + d + 2) bs (by omega) (by omega), ht, hb, show a + d + 2 - (a + 2) = d by omega]
theorem wireSkips_main (s : ByteArray) (d a : Nat) (w : World) (hT : Tab w) (bd : Bool) (hd : (d == 0) = bd) (HS : Hid (s.size ≤ 300)) (HD : Hid (s.size + d ≤ 600)) (HA : Hid (a ≤ 9223372036854775807)) :
    Calls Tryd.prog 10 #[.string s, .int .i64 ((s.size + d : Nat) : Int), .int .i64 a] w fun e w' => e = .returned (.bool true) ∧ Below w.heap.size w w' := by
  obtain ⟨tot, htot⟩ : ∃ l, l = leb 2 s.data.toList.length ++ s.data.toList ++ List.replicate d 0 := ⟨_, rfl⟩
  have htl : tot.length = s.size + d + 2 := by
    rw [htot]; simp only [List.length_append, leb_length, list_size, List.length_replicate]; omega
  have hsz : (str tot).size = s.size + d + 2 := by rw [str_size, htl]
  have d1 : decide (300 < (s.size : Int)) = false := by have := HS.out; simp; omega
  have d2 : decide (600 < ((s.size : Int) + (d : Int))) = false := by have := HD.out; simp; omega
  have d3 : decide ((s.size : Int) + (d : Int) < (s.size : Int)) = false := by simp; omega
  have d4 : decide ((a : Int) < 0) = false := by simp
  have HT := Lib.hid htot
  have HL := Lib.hid htl
  have HZ := Lib.hid hsz
  have hs3 := HS.out
  have hd6 := HD.out
  clear htot htl hsz
  go_enter Tryd.func10, Tryd.ntmps10
  go_wp2_with fail
  have hw := Wr.zero w
  have bb := (Below.refl w.heap.size w).alloc (Nat.le_refl _) (.cells #[.pointer none, .int .i64 0, .int .i64 0] 29)
  go_wp2_with fail
  refine (wtext_any w.heap.size [] 0 s 300 _ hw (by simp)).mono ?_
  rintro e w1 ⟨rfl, hw2, oo⟩
  rw [wtext_fit s.data.toList [] 300 (by rw [list_size]; have := HS.out; omega) (by omega)] at hw2
  have bb2 := Below.then_only bb oo (Nat.le_refl _) bb.size
  clear bb oo hw
  have bb := bb2
  have hw := hw2
  clear bb2 hw2
  have hbl : ([] ++ leb 2 s.data.toList.length ++ s.data.toList).length = s.size + 2 := by
    simp only [List.nil_append, List.length_append, leb_length, list_size]; omega
  have HB := Lib.hid hbl
  clear hbl
  go_wp2_with fail
  refine (wpad_any w.heap.size _ 0 _ _ hw (by rw [HB.out]; omega)).mono ?_
  rintro e w1 ⟨rfl, hw2, oo⟩
  rw [pad_eq s.size d _ tot HB.out hd6 HT.out] at hw2
  have bb2 := Below.then_only bb oo (Nat.le_refl _) bb.size
  clear bb oo hw
  have bb := bb2
  have hw := hw2
  clear bb2 hw2
  go_wp2_with fail
  refine (wbytes_ok w.heap.size tot _ hw (by rw [HL.out]; omega)).mono ?_
  rintro e w1 ⟨rfl, oo⟩
  have bb2 := bb.trans (oo.mono bb.size)
  clear bb oo hw
  have bb := bb2
  clear bb2
  go_wp2_with fail
  refine (newreader_any _ _).mono ?_
  rintro e w1 ⟨rfl, hr, oo⟩
  have bb2 := bb.trans (oo.mono bb.size)
  have hp := bb.size
  clear bb oo
  have bb := bb2
  clear bb2
  rw [str_list] at hr
  have hq : (((str tot).size : Int) == (s.size : Int) + (d : Int) + 2) = true := by rw [HZ.out, beq_iff_eq]; omega
  have hq2 : (((str tot).size : Int) != (s.size : Int) + (d : Int) + 2) = false := by rw [bne, hq]; rfl
  have hrt := hr
  rw [HT.out] at hrt
  have HR := Lib.hid hr
  clear hr
  have hr := hrt
  clear hrt
  go_wp2_with fail
  refine (rtext_any _ _ 0 300 _ hr (by rw [← HT.out, HL.out]; omega)).mono ?_
  rintro e w1 ⟨rfl, hr2, oo⟩
  rw [rtext_leb s.data.toList _ 300 (by rw [list_size]; have := HS.out; omega) (by omega)] at hr2
  try rw [rtext_leb s.data.toList _ 300 (by rw [list_size]; have := HS.out; omega) (by omega)]
  have bb2 := Below.then_only bb oo hp bb.size
  clear bb oo hr
  have bb := bb2
  have hr := hr2
  clear bb2 hr2
  rw [str_of]
  go_wp2_with fail
  rw [show ((s.size : Int) + (d : Int) - (s.size : Int)) = (d : Int) by omega]
  go_wp2_with fail
  refine (rskip_any _ _ 0 d _ hr (by rw [List.length_replicate]; omega)).mono ?_
  rintro e w1 ⟨rfl, hr2, oo⟩
  rw [rskip_zeros d] at hr2
  try rw [rskip_zeros d]
  have bb2 := Below.then_only bb oo hp bb.size
  clear bb oo hr
  have bb := bb2
  have hr := hr2
  clear bb2 hr2
  have hee : (s.toList == s.toList) = true := by simp
  have hne : (s.toList != s.toList) = false := by simp
  go_wp2_with fail
  refine (rerr_any _ [] 0 _ hr).mono ?_
  rintro e w2 ⟨rfl, rfl⟩
  go_wp2_with fail
  refine (rend_any _ [] 0 _ hr (by simp)).mono ?_
  rintro e w2 ⟨rfl, rfl⟩
  rw [show rend [] 0 = 0 by decide]
  have hdd : (((s.size : Int) + (d : Int)) == (s.size : Int)) = bd := by
    rw [← hd, Bool.eq_iff_iff]; simp; omega
  cases bd
  · have hd1 : 0 < d := by
      rcases Nat.eq_zero_or_pos d with e | e
      · rw [e] at hd
        cases hd
      · exact e
    obtain ⟨cap, W, hrun, hcap, hcells, hfro, hbw⟩ := text_bytes (P := Tryd.prog) w1 9 31 5 tot Tryd.underlying9 Tryd.underlying31 Tryd.underlying5
    have bW := bb.trans (hbw.mono bb.size)
    have hmod : a % d < d := Nat.mod_lt _ hd1
    have hi : s.size + 2 + a % d < tot.length := by rw [HL.out]; omega
    have hcell := hcells _ hi
    have hfr := hfro _ hi
    have hback := bytes_set_text (P := Tryd.prog) W 31 9 5 w1.heap.size cap tot (s.size + 2 + a % d) 7 Tryd.underlying31 Tryd.underlying5 Tryd.underlying9 hcells hi tot.length rfl
    have ha := HA.out
    rw [HL.out] at hrun hback hcap
    rw [show (((7 : UInt8).toNat : Nat) : Int) = 7 from rfl] at hback
    have hsub : ((s.size : Int) + (d : Int) - (s.size : Int)) = (d : Int) := by omega
    have hm0 : 0 ≤ (a : Int) % (d : Int) := by omega
    have hm1 : (a : Int) % (d : Int) < (d : Int) := by have : ((a % d : Nat) : Int) = (a : Int) % (d : Int) := Int.natCast_emod a d; omega
    have htn : ((s.size : Int) + 2 + (a : Int) % (d : Int)).toNat = s.size + 2 + a % d := by have : ((a % d : Nat) : Int) = (a : Int) % (d : Int) := Int.natCast_emod a d; omega
    have hset : tot.set (s.size + 2 + a % d) 7 = leb 2 s.data.toList.length ++ s.data.toList ++ (List.replicate d 0).set (a % d) 7 := by
      have hl : (leb 2 s.data.toList.length ++ s.data.toList).length = s.size + 2 := by
        simp only [List.length_append, leb_length, list_size]; omega
      have := set_behind (leb 2 s.data.toList.length ++ s.data.toList) d (a % d)
      rw [hl, ← HT.out] at this
      exact this
    have HSET := Lib.hid hset
    have bs := Below.setCell bW (p := ⟨w1.heap.size, s.size + 2 + a % d, none⟩) bb.size (.int .u8 7)
    clear hcells hfro hset bb hr hbw bW
    have bb := bs
    clear bs hp
    go_wp2_with fail
    refine (newreader_any _ _).mono ?_
    rintro e w1 ⟨rfl, hr, oo⟩
    have bb2 := bb.trans (oo.mono bb.size)
    have hp := bb.size
    clear bb oo
    have bb := bb2
    clear bb2
    rw [str_list, HSET.out] at hr
    rw [World.size_setCell] at hr hp
    go_wp2_with fail
    refine (rtext_any _ _ 0 300 _ hr (by simp only [List.length_append, leb_length, list_size, List.length_set, List.length_replicate]; omega)).mono ?_
    rintro e w1 ⟨rfl, hr2, oo⟩
    rw [rtext_leb s.data.toList _ 300 (by rw [list_size]; omega) (by omega)] at hr2
    try rw [rtext_leb s.data.toList _ 300 (by rw [list_size]; omega) (by omega)]
    have bb2 := Below.then_only bb oo hp bb.size
    clear bb oo hr
    have bb := bb2
    have hr := hr2
    clear bb2 hr2
    rw [str_of]
    go_wp2_with fail
    try rw [hsub]
    go_wp2_with fail
    refine (rskip_any _ _ 0 d _ hr (by rw [List.length_set, List.length_replicate]; omega)).mono ?_
    rintro e w1 ⟨rfl, hr2, oo⟩
    rw [rskip_set d (a % d) hmod] at hr2
    try rw [rskip_set d (a % d) hmod]
    have bb2 := Below.then_only bb oo hp bb.size
    clear bb oo hr
    have bb := bb2
    have hr := hr2
    clear bb2 hr2
    go_wp2_with fail
    refine (alive_any _ (hT.below bb)).mono ?_
    rintro e w1 ⟨rfl, oo⟩
    have bb2 := bb.trans (oo.mono bb.size)
    have hr2 := hr.below oo
    clear bb oo hr
    have bb := bb2
    have hr := hr2
    clear bb2 hr2
    go_wp2_with fail
    refine (rerr_any _ [] 4 _ hr).mono ?_
    rintro e w2 ⟨rfl, rfl⟩
    go_wp2
    go_ret
    exact ⟨rfl, bb⟩
  · skip
    go_wp2_with fail
    refine (alive_any _ (hT.below bb)).mono ?_
    rintro e w1 ⟨rfl, oo⟩
    have bb2 := bb.trans (oo.mono bb.size)
    clear bb oo
    have bb := bb2
    clear bb2
    go_wp2
    go_ret
    exact ⟨rfl, bb⟩
theorem wireSkips_walk (s : ByteArray) (_ws : s.size ≤ maxLen) (n : Int) (_wn : (Lit.int .i64 n).wf = true) (a : Int) (wa : (Lit.int .i64 a).wf = true) (w : World) (hT : Tab w) :
    Calls Tryd.prog 10 #[.string s, .int .i64 n, .int .i64 a] w fun e w' => e = .returned (.bool true) ∧ Below w.heap.size w w' := by
  have wA := wf_i64 wa
  clear _ws _wn wa
  have tail : ∀ b1 b2 b3 b4, decide (300 < (s.size : Int)) = b1 → decide (n < (s.size : Int)) = b2 → decide (600 < n) = b3 → decide (a < 0) = b4 → (b1 || b2 || b3 || b4) = true →
      Calls Tryd.prog 10 #[.string s, .int .i64 n, .int .i64 a] w fun e w' => e = .returned (.bool true) ∧ Below w.heap.size w w' := by
    clear wA
    intro b1 b2 b3 b4 d1 d2 d3 d4 hb
    cases b1 <;> cases b2 <;> cases b3 <;> cases b4 <;> first
      | (exact absurd hb (by decide))
      | (clear hb
         go_enter Tryd.func10, Tryd.ntmps10
         go_wp2_with (go_at_call 12; refine (alive_any _ hT).mono ?_; rintro e w' ⟨rfl, hb⟩)
         go_ret
         exact ⟨rfl, hb⟩)
  by_cases hc : s.size ≤ 300 ∧ (s.size : Int) ≤ n ∧ n ≤ 600 ∧ 0 ≤ a
  · obtain ⟨c1, c2, c3, c4⟩ := hc
    obtain ⟨k, rfl⟩ := Int.eq_ofNat_of_zero_le c4
    obtain ⟨m, rfl⟩ := Int.eq_ofNat_of_zero_le (show 0 ≤ n by omega)
    obtain ⟨d, rfl⟩ : ∃ d, m = s.size + d := ⟨m - s.size, by omega⟩
    clear tail
    exact wireSkips_main s d k w hT _ rfl c1 (show s.size + d ≤ 600 by omega) (show k ≤ 9223372036854775807 by omega)
  · refine tail _ _ _ _ rfl rfl rfl rfl ?_
    simp only [Bool.or_eq_true, decide_eq_true_eq]
    omega

set_option maxRecDepth 100000 in
theorem wireSkips_lifted (os : Os) (started : os.Started) (H : Type) (enc : TypeId × Value → H) :
    ReturnsInHanded {} Tryd.checked os 10 .any (fun w args => (Rows.wireSkipsSpec.pre enc Tryd.prog Tryd.f10 [] false w args ∧ laidMetH Tryd.prog Rows.wireSkipsRow.laid w) ∧ sizedMet enc Tryd.prog Tryd.f10 (OpenSpec.ofChange Rows.wireSkipsSpec) false w args)
      (Rows.wireSkipsSpec.post enc Tryd.prog Tryd.f10 false true false false) := by
  refine returnsInHanded_of_change_and (C := Tryd.checked) (X := fun w _ => laidMetH Tryd.prog Rows.wireSkipsRow.laid w) (fun _ _ _ hh h => h.of_heap hh) own started (by kernel_rfl) Tryd.func10
    (ChangeSpec.witness_shaped (enc := enc) (C := Tryd.checked) (os := os) (X := fun w _ => laidMetH Tryd.prog Rows.wireSkipsRow.laid w) false (World.doorLaid Tryd.prog 400 os) #[.string ByteArray.empty, .int .i64 0, .int .i64 0] 8 rfl (World.shaped_of_RefB (by kernel_rfl) (by kernel_rfl)) (by kernel_rfl) (by kernel_rfl) (by kernel_rfl) (laidMetH_of_plain (by kernel_rfl) (laidMet_of_run' 8 (by kernel_rfl) (by kernel_rfl)))) ?_
  intro W base args ds gs before hval0 hW _ hsz hL _
  have hval : ∀ (j : Nat) t v, Tryd.f10.params[j]? = some t → args[j]? = some v → Value.okWide Tryd.prog W .any base t v := hval0
  have hW' := hW
  obtain ⟨p, q, hA0, hV, rfl, hfz, hnd⟩ := hW
  have hA : DataW.TrodAll enc Tryd.prog W 0 (fun _ => true) true Tryd.f10.params.toList args.toList ds p := hA0
  rw [Tryd.params10] at hA hval
  obtain ⟨v0, vs0, d0, ds0, p0, q0, hargs, rfl, rfl, h0, r0⟩ := trodAll_cons hA
  obtain ⟨v1, vs1, d1, ds1, p1, q1, rfl, rfl, rfl, h1, r1⟩ := trodAll_cons r0
  obtain ⟨v2, vs2, d2, ds2, p2, q2, rfl, rfl, rfl, h2, r2⟩ := trodAll_cons r1
  obtain ⟨rfl, rfl, rfl⟩ := trodAll_nil r2
  obtain rfl : args = #[v0, v1, v2] := by cases args; simp_all
  obtain ⟨rfl, rfl⟩ := trodVars_none hV
  have k0 := h0
  have lt0 : ∀ x ∈ p0, x.block < W.heap.size := by obtain ⟨m, hm⟩ := k0; exact DataW.trod_lt m _ _ _ hm
  have k1 := h1
  have lt1 : ∀ x ∈ p1, x.block < W.heap.size := by obtain ⟨m, hm⟩ := k1; exact DataW.trod_lt m _ _ _ hm
  have k2 := h2
  have lt2 : ∀ x ∈ p2, x.block < W.heap.size := by obtain ⟨m, hm⟩ := k2; exact DataW.trod_lt m _ _ _ hm
  obtain ⟨a0, rfl, rfl, rfl, w0⟩ := open_string Tryd.underlying9 (hval 0 9 v0 rfl rfl) h0
  obtain ⟨a1, rfl, rfl, rfl, w1⟩ := open_int Tryd.underlying3 (hval 1 3 v1 rfl rfl) h1
  obtain ⟨a2, rfl, rfl, rfl, w2⟩ := open_int Tryd.underlying3 (hval 2 3 v2 rfl rfl) h2
  have hT : Tab W := tab_of_laid (by kernel_rfl) hL (by exact List.mem_cons_of_mem _ (List.mem_cons_of_mem _ (List.mem_cons_self)))
  clear hA0 hval0 hsz
  refine (wireSkips_walk a0 w0 a1 w1 a2 w2 W hT).mono fun e W' ⟨he, bel⟩ => ?_
  subst he
  exact ⟨_, rfl, _, _, _, [], _, [], hW', trodAll_mk1 (shut_bool Tryd.underlying4 _), (trodAll_cons_mk (Below.trod laidOut (by kernel_rfl) (of_decide_eq_true (by kernel_rfl)) k0 bel lt0) (trodAll_cons_mk (Below.trod laidOut (by kernel_rfl) (of_decide_eq_true (by kernel_rfl)) k1 bel lt1) (trodAll_cons_mk (Below.trod laidOut (by kernel_rfl) (of_decide_eq_true (by kernel_rfl)) k2 bel lt2) trodAll_mk0))), rfl, bel.frame _, fun h => by cases h⟩

theorem wireSkips_said : Rows.WireSkipsSaid :=
  OpenClaim.holds_of_wide 10 Tryd.f10 rfl rfl rfl rfl rfl rfl rfl ⟨rfl, rfl, rfl, rfl, rfl⟩ rfl rfl rfl rfl rfl (by kernel_rfl) Tryd.func10 (by kernel_rfl)
    (of_decide_eq_true (by kernel_rfl)) (by unfold Func.isWrapper; first | (rw [if_pos (by decide +kernel)]; kernel_rfl) | (rw [if_neg (by decide +kernel)]; exact ⟨rfl, rfl⟩))
    (fun os started H enc _ => wireSkips_lifted os started H enc)

theorem wireSkips_holds : Rows.WireSkipsCardSaid :=
  Claim7.holds_tied_plain_at .later [] [.data, .data, .data] true (true, "a3894e17570ffa024163006ff24429a9ca465d1b824b0f8a029644fd09ba0ccf") false
    wireSkips_said (fun _ h => by cases h) (by kernel_rfl) (fun _ h => by cases h) wireSkips_row_tie rfl ⟨rfl, rfl⟩ (by kernel_rfl) rfl
    (fun f fn hf hfn => by
      obtain rfl : f = 10 := Option.some.inj ((show Tryd.prog.funcNamed Rows.wireSkipsRow.func = some 10 by kernel_rfl).symm.trans hf) |>.symm
      obtain rfl : fn = Tryd.f10 := (Option.some.inj (Tryd.func10.symm.trans hfn)).symm
      exact ⟨by kernel_rfl, fun j t ht => by
        rw [Tryd.params10] at ht
        have hm : t ∈ [9, 3, 3] := by simpa using Array.mem_of_getElem? ht
        have hall : ([9, 3, 3].all fun u => !Tryd.prog.wantsStandIn u) = true := by kernel_rfl
        exact (show Tryd.prog.wantsStandIn t = false by simpa using List.all_eq_true.1 hall t hm)⟩)
    (by kernel_rfl)
#print axioms wireSkips_holds
end Go.Proofs.YthhnpanacnpaeaaDoor
