/- The statement SumBack of package sum: what was sealed is opened, what was stamped is read, with its bytes 0; it holds of every text and every int. -/
import Derived.Test.YtnfjncgeapcfbaaSumAll
import Derived.OpenShut
import Derived.ShutString
import Derived.ChangeOld
namespace Go.Proofs.Ytnfjncgeapcfbaa
open Go Go.RowKit Go.ChangeShapes Go.WideShapes Go.ChangeAt
open Go.ChangeMaps (open_string shut_string)
set_option maxRecDepth 100000
set_option maxHeartbeats 2000000

theorem fill0_at (s : ByteArray) (k i : Nat) (h1 : s.size ≤ i) (h2 : i < (fill0 s k).size) : (fill0 s k)[i] = 0 := by
  obtain ⟨l, rfl⟩ := as_str s
  have e : fill0 (str l) k = str (l ++ List.replicate k 0) := by rw [fill0, str_append]
  have h : (fill0 (str l) k)[i] = (str (l ++ List.replicate k 0))[i]'(by rw [← e]; exact h2) := by congr 1
  rw [h, str_get, List.getElem_append_right (by rw [str_size] at h1; exact h1)]
  simp
theorem fill0_head (s : ByteArray) (k : Nat) : (fill0 s k).extract 0 s.size = s := by
  obtain ⟨l, rfl⟩ := as_str s
  rw [fill0, str_append, str_extract, str_size, List.drop_zero, List.take_left' rfl]
theorem sumBack_bad (s : ByteArray) (n : Int) (w : World) (c1 : decide (3000 < (s.size : Int)) = false) (c2 : decide (4000 < n) = false) (h1 : s.size ≤ 3000) (E : Int) (hE : (E == 0) = false) (b4 : Bool) (d4 : decide (n < 4) = b4) (d5 : b4 = false → decide (n - 4 < (s.size : Int)) = true)
    (b5 : b4 = false → 4 ≤ n ∧ n ≤ 4000) (hst : ∀ W : World, Calls Try.prog 14 #[.string s, .int .i64 n] W fun e w' => e = .returned (.tuple #[.string ⟨#[]⟩, .int .i64 E]) ∧ Below W.heap.size W w') :
    Calls Try.prog 4 #[.string s, .int .i64 n] w fun e w' => e = .returned (.bool true) ∧ Below w.heap.size w w' := by
  obtain ⟨z, hz⟩ : ∃ z, z = sealS s := ⟨_, rfl⟩
  have hzs : z.size = 4 + s.size := by rw [hz, sealS, append_size, str_size, sum4_length]
  have HSE := Lib.hid (show ∀ W : World, Calls Try.prog 18 #[.string s] W fun e w' => e = .returned (.string z) ∧ Below W.heap.size W w' from fun W => by rw [hz]; exact sumseal_any _ W (by omega))
  have HO := Lib.hid (show ∀ W : World, Calls Try.prog 10 #[.string z] W fun e w' => e = .returned (.tuple #[.string s, .int .i64 0]) ∧ Below W.heap.size W w' from fun W => by
    have := sumopen_all z W (by omega)
    have h := opn_seal s
    rwa [hz, h.1, h.2, ← hz] at this)
  have HST := Lib.hid hst
  clear hz hzs hst h1
  cases b4
  all_goals
    simp only [forall_const, reduceCtorEq, false_implies] at d5 b5
    try obtain ⟨b5, b6⟩ := b5
    go_enter Try.func4, Try.ntmps4
    go_wp2_with fail
    refine (HSE.out _).mono ?_
    rintro e w1 ⟨rfl, b1⟩
    go_wp2_with fail
    refine (HO.out _).mono ?_
    rintro e w2 ⟨rfl, b2⟩
    have b2 := b1.trans (b2.mono b1.size)
    go_wp2_with fail
    refine (HST.out _).mono ?_
    rintro e w3 ⟨rfl, b3⟩
    have b3 := b2.trans (b3.mono b2.size)
    go_wp2_with fail
    refine (sumalive_any _).mono ?_
    rintro e w4 ⟨rfl, b4⟩
    have b4 := b3.trans (b4.mono b3.size)
    go_wp2
    go_ret
    exact ⟨rfl, b4⟩
theorem sumBack_good (s : ByteArray) (k : Nat) (w : World) (h1 : s.size ≤ 3000) (h2 : s.size + k + 4 ≤ 4000) :
    Calls Try.prog 4 #[.string s, .int .i64 ((s.size + k + 4 : Nat) : Int)] w fun e w' => e = .returned (.bool true) ∧ Below w.heap.size w w' := by
  obtain ⟨z, hz⟩ : ∃ z, z = sealS s := ⟨_, rfl⟩
  have hzs : z.size = 4 + s.size := by rw [hz, sealS, append_size, str_size, sum4_length]
  have HSE := Lib.hid (show ∀ W : World, Calls Try.prog 18 #[.string s] W fun e w' => e = .returned (.string z) ∧ Below W.heap.size W w' from fun W => by rw [hz]; exact sumseal_any _ W (by omega))
  have HO := Lib.hid (show ∀ W : World, Calls Try.prog 10 #[.string z] W fun e w' => e = .returned (.tuple #[.string s, .int .i64 0]) ∧ Below W.heap.size W w' from fun W => by
    have := sumopen_all z W (by omega)
    have h := opn_seal s
    rwa [hz, h.1, h.2, ← hz] at this)
  obtain ⟨n, hn⟩ : ∃ n, n = s.size + k + 4 := ⟨_, rfl⟩
  obtain ⟨t, ht⟩ : ∃ t, t = stampS s k := ⟨_, rfl⟩
  obtain ⟨b, hb⟩ : ∃ b, b = fill0 s k := ⟨_, rfl⟩
  have hts : t.size = n := by rw [ht, stampS_size, hn]
  have hbs : b.size = s.size + k := by rw [hb, fill0, append_size, str_size, List.length_replicate]
  have HST := Lib.hid (show ∀ W : World, Calls Try.prog 14 #[.string s, .int .i64 n] W fun e w' => e = .returned (.tuple #[.string t, .int .i64 0]) ∧ Below W.heap.size W w' from fun W => by
    rw [hn, ht]
    exact sumstamp_any s k W (by omega))
  have HRD := Lib.hid (show ∀ W : World, Calls Try.prog 12 #[.string t] W fun e w' => e = .returned (.tuple #[.string b, .int .i64 0]) ∧ Below W.heap.size W w' from fun W => by
    have := sumread_all t W (by omega)
    have h := rd_stamp s k
    rwa [ht, h.1, h.2, ← ht, ← hb] at this)
  have HB := Lib.hid (show ∀ i (h : i < b.size), s.size ≤ i → b[i] = 0 from fun i h h0 => by subst hb; exact fill0_at s k i h0 h)
  have hex : b.extract 0 s.size = s := by rw [hb]; exact fill0_head s k
  have HEX := Lib.hid hex
  have c1 : decide (3000 < (s.size : Int)) = false := by simp; omega
  have c2 : decide (4000 < (n : Int)) = false := by simp; omega
  have c3 : decide (b.size < s.size) = false := by simp; omega
  have c4 : ((t.size : Int) == (n : Int)) = true := by rw [beq_iff_eq]; omega
  have c5 : ((b.size : Int) == (n : Int) - 4) = true := by rw [beq_iff_eq]; omega
  have c6 : (0 : Int) ≤ (s.size : Int) := by omega
  have c7 : (s.size : Int) ≤ (b.size : Int) := by omega
  have c8 : 4 ≤ (n : Int) := by omega
  have c9 : (b.size : Int) ≤ 4000 := by omega
  have c10 : (n : Int) ≤ 4000 := by omega
  rw [← hn]
  clear hz hzs hts ht hb hbs hn hex h1 h2
  go_enter Try.func4, Try.ntmps4
  go_wp2_with fail
  refine (HSE.out _).mono ?_
  rintro e w1 ⟨rfl, b1⟩
  go_wp2_with fail
  refine (HO.out _).mono ?_
  rintro e w2 ⟨rfl, b2⟩
  have b2 := b1.trans (b2.mono b1.size)
  go_wp2_with fail
  refine (HST.out _).mono ?_
  rintro e w3 ⟨rfl, b3⟩
  have b3 := b2.trans (b3.mono b2.size)
  go_wp2_with fail
  refine (HRD.out _).mono ?_
  rintro e w4 ⟨rfl, b4⟩
  have b4 := b3.trans (b4.mono b3.size)
  clear b1 b2 b3
  have hx := eq_yes HEX.out
  go_wp2
  go_loop [11] (fun i => ∃ k : Nat, s.size ≤ k ∧ k ≤ b.size ∧ i = .int .i64 k) (fun i => b.size - (intOf i).toNat)
  case atStart => exact ⟨s.size, Nat.le_refl _, by omega, rfl⟩
  case round =>
    obtain ⟨j, hj, hjb, rfl⟩ := hrel
    by_cases hlt : j < b.size
    · have h0 := HB.out j hlt hj
      have h0' : (((b[j].toNat : Int)) == 0) = true := by rw [h0]; rfl
      clear h0
      go_wp2
      go_round
      case rel => exact ⟨j + 1, by omega, by omega, by go_num⟩
      case measure => simp [intOf]; omega
    · go_wp2_with fail
      refine (sumalive_any _).mono ?_
      rintro e w5 ⟨rfl, b5⟩
      have b5 := b4.trans (b5.mono b4.size)
      go_wp2
      go_ret
      exact ⟨rfl, b5⟩
theorem sumBack_walk (s : ByteArray) (_ws : s.size ≤ maxLen) (n : Int) (_wn : (Lit.int .i64 n).wf = true) (w : World) :
    Calls Try.prog 4 #[.string s, .int .i64 n] w fun e w' => e = .returned (.bool true) ∧ Below w.heap.size w w' := by
  clear _ws _wn
  have tail : ∀ b1 b2, decide (3000 < (s.size : Int)) = b1 → decide (4000 < n) = b2 → (b1 || b2) = true →
      Calls Try.prog 4 #[.string s, .int .i64 n] w fun e w' => e = .returned (.bool true) ∧ Below w.heap.size w w' := by
    intro b1 b2 d1 d2 hb
    cases b1 <;> cases b2 <;> first
      | (exact absurd hb (by decide))
      | (clear hb
         go_enter Try.func4, Try.ntmps4
         go_wp2_with (go_at_call 8; refine (sumalive_any _).mono ?_; rintro e w' ⟨rfl, hb⟩)
         go_ret
         exact ⟨rfl, hb⟩)
  by_cases hc : s.size ≤ 3000 ∧ n ≤ 4000
  · obtain ⟨c1, c2⟩ := hc
    clear tail
    by_cases h4 : n < 4
    · refine sumBack_bad s n w (by simp; omega) (by simp; omega) c1 (stpE s n) (by simp [stpE, h4]) true (by simpa using h4) (by simp) (by simp) (fun W => ?_)
      have := sumstamp_all s n W
      rwa [show stpS s n = ⟨#[]⟩ by rw [stpS, if_pos (.inl h4)]] at this
    · by_cases h5 : n - 4 < s.size
      · have hne : ¬ (n < 4 ∨ 60000 < n) := by omega
        refine sumBack_bad s n w (by simp; omega) (by simp; omega) c1 (stpE s n) (by simp [stpE, hne, h5]) false (by simpa using h4) (fun _ => by simpa using h5) (fun _ => by omega) (fun W => ?_)
        have := sumstamp_all s n W
        rwa [show stpS s n = ⟨#[]⟩ by rw [stpS, if_neg hne, if_pos h5]] at this
      · have := sumBack_good s (n - 4 - s.size).toNat w c1 (by omega)
        rwa [show ((s.size + (n - 4 - (s.size : Int)).toNat + 4 : Nat) : Int) = n by omega] at this
  · refine tail _ _ rfl rfl ?_
    simp only [Bool.or_eq_true, decide_eq_true_eq]
    omega

set_option maxRecDepth 100000 in
theorem sumBack_lifted (os : Os) (started : os.Started) (H : Type) (enc : TypeId × Value → H) :
    ReturnsInHanded {} Try.checked os 4 .any (Rows.sumBackSpec.pre6 enc Try.prog Try.f4 Rows.sumBackRow.domain false) (Rows.sumBackSpec.post enc Try.prog Try.f4 false true false false) := by
  refine returnsInHanded_of_change (C := Try.checked) own started (by kernel_rfl) Try.func4
    (ChangeSpec.witness6 (enc := enc) (C := Try.checked) false ⟨#[], #[.string ByteArray.empty, .int .i64 0], []⟩ 8 (by kernel_rfl) (by kernel_rfl) (by kernel_rfl) (by kernel_rfl)) ?_
  intro W base args ds gs before hval0 hW _ _
  have hval : ∀ (j : Nat) t v, Try.f4.params[j]? = some t → args[j]? = some v → Value.okWide Try.prog W .any base t v := hval0
  have hW' := hW
  obtain ⟨p, q, hA0, hV, rfl, hfz, hnd⟩ := hW
  have hA : DataW.TrodAll enc Try.prog W 0 (fun _ => true) true Try.f4.params.toList args.toList ds p := hA0
  rw [Try.params4] at hA hval
  obtain ⟨v0, vs0, d0, ds0, p0, q0, hargs, rfl, rfl, h0, r0⟩ := trodAll_cons hA
  obtain ⟨v1, vs1, d1, ds1, p1, q1, rfl, rfl, rfl, h1, r1⟩ := trodAll_cons r0
  obtain ⟨rfl, rfl, rfl⟩ := trodAll_nil r1
  obtain rfl : args = #[v0, v1] := by cases args; simp_all
  obtain ⟨rfl, rfl⟩ := trodVars_none hV
  have k0 := h0
  have lt0 : ∀ x ∈ p0, x.block < W.heap.size := by obtain ⟨m, hm⟩ := k0; exact DataW.trod_lt m _ _ _ hm
  have k1 := h1
  have lt1 : ∀ x ∈ p1, x.block < W.heap.size := by obtain ⟨m, hm⟩ := k1; exact DataW.trod_lt m _ _ _ hm
  obtain ⟨a0, rfl, rfl, rfl, w0⟩ := open_string Try.underlying9 (hval 0 9 v0 rfl rfl) h0
  obtain ⟨a1, rfl, rfl, rfl, w1⟩ := open_int Try.underlying3 (hval 1 3 v1 rfl rfl) h1
  clear hA0 hval0
  refine (sumBack_walk a0 w0 a1 w1 W).mono fun e W' ⟨he, bel⟩ => ?_
  subst he
  exact ⟨_, rfl, _, _, _, [], _, [], hW', trodAll_mk1 (shut_bool Try.underlying4 _), (trodAll_cons_mk (Below.trod laidOut (by kernel_rfl) (of_decide_eq_true (by kernel_rfl)) k0 bel lt0) (trodAll_cons_mk (Below.trod laidOut (by kernel_rfl) (of_decide_eq_true (by kernel_rfl)) k1 bel lt1) trodAll_mk0)), rfl, bel.frame _, fun h => by cases h⟩

theorem sumBack_said : Rows.SumBackSaid :=
  OpenClaim.holds_of_wide 4 Try.f4 rfl rfl rfl rfl rfl rfl rfl ⟨rfl, rfl, rfl, rfl, rfl⟩ rfl rfl rfl rfl rfl (by kernel_rfl) Try.func4 (by kernel_rfl)
    (of_decide_eq_true (by kernel_rfl)) (by unfold Func.isWrapper; first | (rw [if_pos (by decide +kernel)]; kernel_rfl) | (rw [if_neg (by decide +kernel)]; exact ⟨rfl, rfl⟩))
    (fun os started H enc _ => sumBack_lifted os started H enc)
#print axioms sumBack_said
end Go.Proofs.Ytnfjncgeapcfbaa
