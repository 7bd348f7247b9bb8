/- The statement BlockKeeps of package block: what was stored is loaded, block by block; a block of which one sector alone was written, with another version, is torn, whatever its bytes are; it holds of every two images and every list of ints. -/
import Derived.Test.YtmlhncheodpbpaaGreatKeepsA
import Derived.Test.YtmlhncheodpbpaaGreatKeepsB
import Derived.Test.YtmlhncheodpbpaaGreatKeepsC
import Derived.Test.YtmlhncheodpbpaaGreatKeepsD
import Derived.ChangeOld
namespace Go.Proofs.YtmlhncheodpbpaaGreat
open Go Go.RowKit SupP DskP RdkP Go.ChangeShapes Go.WideShapes Go.ChangeAt
set_option maxRecDepth 100000
set_option maxHeartbeats 2000000
set_option linter.unusedSimpArgs false

theorem keeps_out (a b : Im) (keep : List Int) (kx : Value) (w : World) (hk : Ints w kx keep) (h : ¬ (a.d.length = 96 ∧ b.d.length = 96 ∧ keep.length ≤ 4 ∧ 0 ≤ a.b ∧ a.b ≤ 9 ∧ b.b = a.b)) :
    Calls Tryz.prog 4 #[aggI a, aggI b, kx] w fun e w' => e = .returned (.bool true) ∧ Below w.heap.size w w' := by
  have HA := Lib.hid alive10_any
  obtain ⟨A, cap, rfl, hcap, hcap2, -⟩ := hk.one_
  have hl0 : (keep.length : Int) ≤ 9223372036854775807 := by omega
  obtain ⟨ab, va, da⟩ := a
  obtain ⟨bb, vb, db⟩ := b
  unfold aggI
  simp only at h ⊢
  have h1 : (((str da).size : Int) != 96) = (decide (da.length ≠ 96)) := by rw [str_size]; by_cases e : da.length = 96 <;> simp [e]; omega
  have h2 : (((str db).size : Int) != 96) = (decide (db.length ≠ 96)) := by rw [str_size]; by_cases e : db.length = 96 <;> simp [e]; omega
  obtain ⟨m, hm⟩ : ∃ m, m = keep.length := ⟨_, rfl⟩
  rw [← hm] at h hl0 ⊢
  generalize str da = EA at *
  generalize str db = EB at *
  clear hk hm hcap hcap2
  by_cases e1 : da.length = 96
  · rw [decide_eq_false (by simp [e1])] at h1
    by_cases e2 : db.length = 96
    · rw [decide_eq_false (by simp [e2])] at h2
      by_cases e3 : m ≤ 4
      · have d3 : decide (4 < (m : Int)) = false := decide_eq_false (by omega)
        by_cases e4 : 0 ≤ ab
        · have d4 : decide (ab < 0) = false := decide_eq_false (by omega)
          by_cases e5 : ab ≤ 9
          · have d5 : decide (9 < ab) = false := decide_eq_false (by omega)
            have e6 : ¬ bb = ab := fun e6 => h ⟨e1, e2, e3, e4, e5, e6⟩
            have d6 : (bb != ab) = true := bne_iff_ne.2 e6
            clear h e1 e2 e3 e4 e5 e6
            go_enter Tryz.func4, Tryz.ntmps4
            go_wp2_with fail
            (with_reducible refine (HA.out _).mono ?_)
            rintro e w1 ⟨rfl, hb⟩
            have HF := Lib.hid ((((Below.refl w.heap.size w).alloc (Nat.le_refl _) (.cells #[.int .i64 ab, .int .u64 (va : Int), .string EA] 24)).alloc (by simp) (.cells #[.int .i64 bb, .int .u64 (vb : Int), .string EB] 24)).trans (hb.mono (by simp only [World.size_alloc]; omega)))
            clear hb
            go_wp2
            go_ret
            exact ⟨rfl, HF.out⟩
          · have d5 : decide (9 < ab) = true := decide_eq_true (by omega)
            clear h e1 e2 e3 e4 e5
            go_enter Tryz.func4, Tryz.ntmps4
            go_wp2_with fail
            (with_reducible refine (HA.out _).mono ?_)
            rintro e w1 ⟨rfl, hb⟩
            have HF := Lib.hid ((((Below.refl w.heap.size w).alloc (Nat.le_refl _) (.cells #[.int .i64 ab, .int .u64 (va : Int), .string EA] 24)).alloc (by simp) (.cells #[.int .i64 bb, .int .u64 (vb : Int), .string EB] 24)).trans (hb.mono (by simp only [World.size_alloc]; omega)))
            clear hb
            go_wp2
            go_ret
            exact ⟨rfl, HF.out⟩
        · have d4 : decide (ab < 0) = true := decide_eq_true (by omega)
          clear h e1 e2 e3 e4
          go_enter Tryz.func4, Tryz.ntmps4
          go_wp2_with fail
          (with_reducible refine (HA.out _).mono ?_)
          rintro e w1 ⟨rfl, hb⟩
          have HF := Lib.hid ((((Below.refl w.heap.size w).alloc (Nat.le_refl _) (.cells #[.int .i64 ab, .int .u64 (va : Int), .string EA] 24)).alloc (by simp) (.cells #[.int .i64 bb, .int .u64 (vb : Int), .string EB] 24)).trans (hb.mono (by simp only [World.size_alloc]; omega)))
          clear hb
          go_wp2
          go_ret
          exact ⟨rfl, HF.out⟩
      · have d3 : decide (4 < (m : Int)) = true := decide_eq_true (by omega)
        clear h e1 e2 e3
        go_enter Tryz.func4, Tryz.ntmps4
        go_wp2_with fail
        (with_reducible refine (HA.out _).mono ?_)
        rintro e w1 ⟨rfl, hb⟩
        have HF := Lib.hid ((((Below.refl w.heap.size w).alloc (Nat.le_refl _) (.cells #[.int .i64 ab, .int .u64 (va : Int), .string EA] 24)).alloc (by simp) (.cells #[.int .i64 bb, .int .u64 (vb : Int), .string EB] 24)).trans (hb.mono (by simp only [World.size_alloc]; omega)))
        clear hb
        go_wp2
        go_ret
        exact ⟨rfl, HF.out⟩
    · rw [decide_eq_true (by simp [e2])] at h2
      clear h e1 e2
      go_enter Tryz.func4, Tryz.ntmps4
      go_wp2_with fail
      (with_reducible refine (HA.out _).mono ?_)
      rintro e w1 ⟨rfl, hb⟩
      have HF := Lib.hid ((((Below.refl w.heap.size w).alloc (Nat.le_refl _) (.cells #[.int .i64 ab, .int .u64 (va : Int), .string EA] 24)).alloc (by simp) (.cells #[.int .i64 bb, .int .u64 (vb : Int), .string EB] 24)).trans (hb.mono (by simp only [World.size_alloc]; omega)))
      clear hb
      go_wp2
      go_ret
      exact ⟨rfl, HF.out⟩
  · rw [decide_eq_true (by simp [e1])] at h1
    clear h e1 h2
    go_enter Tryz.func4, Tryz.ntmps4
    go_wp2_with fail
    (with_reducible refine (HA.out _).mono ?_)
    rintro e w1 ⟨rfl, hb⟩
    have HF := Lib.hid ((((Below.refl w.heap.size w).alloc (Nat.le_refl _) (.cells #[.int .i64 ab, .int .u64 (va : Int), .string EA] 24)).alloc (by simp) (.cells #[.int .i64 bb, .int .u64 (vb : Int), .string EB] 24)).trans (hb.mono (by simp only [World.size_alloc]; omega)))
    clear hb
    go_wp2
    go_ret
    exact ⟨rfl, HF.out⟩
theorem blockKeeps_walk (v0 : Value) (a : Im) (v1 : Value) (b : Im) (v2 : Value) (keep : List Int) (w : World) (hi : ImIn a ∧ v0 = aggI a) (hj : ImIn b ∧ v1 = aggI b) (hk : (∀ x ∈ keep, i64ok x) ∧ Ints w v2 keep) :
    Calls Tryz.prog 4 #[v0, v1, v2] w fun e w' => e = .returned (.bool true) ∧ Below w.heap.size w w' := by
  obtain ⟨ia, rfl⟩ := hi
  obtain ⟨ib, rfl⟩ := hj
  obtain ⟨-, hk⟩ := hk
  by_cases h : a.d.length = 96 ∧ b.d.length = 96 ∧ keep.length ≤ 4 ∧ 0 ≤ a.b ∧ a.b ≤ 9 ∧ b.b = a.b
  · obtain ⟨h1, h2, h3, h4, h5, h6⟩ := h
    have ha : okI a = true := okI_iff.2 ⟨⟨h4, by omega⟩, h1⟩
    have hb : okI b = true := okI_iff.2 ⟨⟨by omega, by omega⟩, h2⟩
    match keep, hk, h3 with
    | [], hk, h3 => exact keeps_0 a b v2 w hk h3 ha hb ia.v ib.v h6 h5
    | [x0], hk, h3 =>
      by_cases e0 : x0 % 2 = 1
      · exact keeps_1_1 a b x0 e0 v2 w hk h3 ha hb ia.v ib.v h6 h5
      · exact keeps_1_0 a b x0 e0 v2 w hk h3 ha hb ia.v ib.v h6 h5
    | x0 :: x1 :: r, hk, h3 =>
      by_cases e0 : x0 % 2 = 1
      · by_cases e1 : x1 % 2 = 1
        · exact keeps_2_11 a b x0 e0 x1 e1 r v2 w hk h3 ha hb ia.v ib.v h6 h5
        · exact keeps_2_10 a b x0 e0 x1 e1 r v2 w hk h3 ha hb ia.v ib.v h6 h5
      · by_cases e1 : x1 % 2 = 1
        · exact keeps_2_01 a b x0 e0 x1 e1 r v2 w hk h3 ha hb ia.v ib.v h6 h5
        · exact keeps_2_00 a b x0 e0 x1 e1 r v2 w hk h3 ha hb ia.v ib.v h6 h5
  · exact keeps_out a b keep v2 w hk h

set_option maxRecDepth 100000 in
theorem blockKeeps_lifted (os : Os) (started : os.Started) (H : Type) (enc : TypeId × Value → H) :
    ReturnsInHanded {} Tryz.checked os 4 .any (Rows.blockKeepsSpec.pre6 enc Tryz.prog Tryz.f4 Rows.blockKeepsRow.domain false) (Rows.blockKeepsSpec.post enc Tryz.prog Tryz.f4 false true false false) := by
  refine returnsInHanded_of_change (C := Tryz.checked) own started (by kernel_rfl) Tryz.func4
    (ChangeSpec.witness6 (enc := enc) (C := Tryz.checked) false ⟨#[], #[.agg #[.int .i64 0, .int .u64 0, .string ByteArray.empty], .agg #[.int .i64 0, .int .u64 0, .string ByteArray.empty], .slice none 0 0], []⟩ 8 (by kernel_rfl) (by kernel_rfl) (by kernel_rfl) (by kernel_rfl)) ?_
  intro W base args ds gs before hval0 hW _ _
  have hval : ∀ (j : Nat) t v, Tryz.f4.params[j]? = some t → args[j]? = some v → Value.okWide Tryz.prog W .any base t v := hval0
  have hW' := hW
  obtain ⟨p, q, hA0, hV, rfl, hfz, hnd⟩ := hW
  have hA : DataW.TrodAll enc Tryz.prog W 0 (fun _ => true) true Tryz.f4.params.toList args.toList ds p := hA0
  rw [Tryz.params4] at hA hval
  obtain ⟨v0, vs0, d0, ds0, p0, q0, hargs, rfl, rfl, h0, r0⟩ := trodAll_cons hA
  obtain ⟨v1, vs1, d1, ds1, p1, q1, rfl, rfl, rfl, h1, r1⟩ := trodAll_cons r0
  obtain ⟨v2, vs2, d2, ds2, p2, q2, rfl, rfl, rfl, h2, r2⟩ := trodAll_cons r1
  obtain ⟨rfl, rfl, rfl⟩ := trodAll_nil r2
  obtain rfl : args = #[v0, v1, v2] := by cases args; simp_all
  obtain ⟨rfl, rfl⟩ := trodVars_none hV
  have k0 := h0
  have lt0 : ∀ x ∈ p0, x.block < W.heap.size := by obtain ⟨m, hm⟩ := k0; exact DataW.trod_lt m _ _ _ hm
  have k1 := h1
  have lt1 : ∀ x ∈ p1, x.block < W.heap.size := by obtain ⟨m, hm⟩ := k1; exact DataW.trod_lt m _ _ _ hm
  have k2 := h2
  have lt2 : ∀ x ∈ p2, x.block < W.heap.size := by obtain ⟨m, hm⟩ := k2; exact DataW.trod_lt m _ _ _ hm
  obtain ⟨a0, w0⟩ := image_open (hval 0 24 v0 rfl rfl) k0
  obtain ⟨a1, w1⟩ := image_open (hval 1 24 v1 rfl rfl) k1
  obtain ⟨a2, w2⟩ := ints_open (hval 2 33 v2 rfl rfl) k2
  clear hA0 hval0
  refine (blockKeeps_walk v0 a0 v1 a1 v2 a2 W w0 w1 w2).mono fun e W' ⟨he, bel⟩ => ?_
  subst he
  exact ⟨_, rfl, _, _, _, [], _, [], hW', trodAll_mk1 (shut_bool Tryz.underlying4 _), (trodAll_cons_mk (Below.trod laidOut (by kernel_rfl) (of_decide_eq_true (by kernel_rfl)) k0 bel lt0) (trodAll_cons_mk (Below.trod laidOut (by kernel_rfl) (of_decide_eq_true (by kernel_rfl)) k1 bel lt1) (trodAll_cons_mk (Below.trod laidOut (by kernel_rfl) (of_decide_eq_true (by kernel_rfl)) k2 bel lt2) trodAll_mk0))), rfl, bel.frame _, fun h => by cases h⟩

theorem blockKeeps_said : Rows.BlockKeepsSaid :=
  OpenClaim.holds_of_wide 4 Tryz.f4 rfl rfl rfl rfl rfl rfl rfl ⟨rfl, rfl, rfl, rfl, rfl⟩ rfl rfl rfl rfl rfl (by kernel_rfl) Tryz.func4 (by kernel_rfl)
    (of_decide_eq_true (by kernel_rfl)) (by unfold Func.isWrapper; first | (rw [if_pos (by decide +kernel)]; kernel_rfl) | (rw [if_neg (by decide +kernel)]; exact ⟨rfl, rfl⟩))
    (fun os started H enc _ => blockKeeps_lifted os started H enc)
#print axioms blockKeeps_said
end Go.Proofs.YtmlhncheodpbpaaGreat
