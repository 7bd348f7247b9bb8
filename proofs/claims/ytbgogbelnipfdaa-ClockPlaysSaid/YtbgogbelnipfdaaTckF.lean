/- The document's clock: what its Step answers and leaves. -/
import Derived.Test.YtbgogbelnipfdaaTckP
import Derived.Test.YtbgogbelnipfdaaTckB
import Derived.Test.YtbgogbelnipfdaaPushI
import Derived.Test.YtbgogbelnipfdaaHold
namespace Go.Proofs.Ytbgogbelnipfdaa
open Go Go.RowKit TckP
set_option maxRecDepth 100000
set_option maxHeartbeats 1000000
set_option linter.unusedSimpArgs false

/-- At g stands the document's clock: H is what it went on by, k is kept. -/
structure RKA (g : Nat) (A : Option Addr) (cap : Nat) (H : List Int) (k : Bool) (S : Nat → Prop) (w : World) : Prop where
  sits : Sits w g 28 #[.int .i64 H.sum, .slice A H.length cap, .bool k]
  row : IRow w 0 (.slice A H.length cap) H
  own : ∀ b, (Value.slice A H.length cap).ownBlock = some b → S b
  g : S g
def RK (g : Nat) (H : List Int) (k : Bool) (S : Nat → Prop) (w : World) : Prop := ∃ A cap, RKA g A cap H k S w
theorem holdRK (g : Nat) (H : List Int) (k : Bool) : Hold (RK g H k) where
  keep := fun ⟨A, cap, h⟩ hk => ⟨A, cap, (hk g h.g h.sits.lt).trans h.sits, h.row.keep fun b hb => hk b (h.own b hb) (h.row.lt b hb).2, h.own, h.g⟩
  mono := fun ⟨A, cap, h⟩ hs => ⟨A, cap, h.sits, h.row, fun b hb => hs b (h.own b hb), hs _ h.g⟩
  less := fun ⟨A, cap, h⟩ => ⟨A, cap, h.sits, h.row, fun b hb => ⟨h.own b hb, (h.row.lt b hb).2⟩, h.g, h.sits.lt⟩
theorem rk_new (w : World) : Has (RK w.heap.size [] true) w (w.alloc (.cells #[.int .i64 0, .slice none 0 0, .bool true] 28)) :=
  ⟨⟨none, 0, Sits.fresh w _ _, RowAt.nil _ _ _ _, fun b hb => by simp [Value.ownBlock] at hb, Nat.le_refl _⟩, (Below.refl _ w).alloc (Nat.le_refl _) _⟩
theorem last_at (H : List Int) (N : Nat) (hN : H.length = N) (j : Nat) (h1 : N - 8 ≤ j) (h2 : j < N) (z : Int) (hz : H[j]? = some z) : ((last8 H).take (j + 1 - (N - 8))).sum = ((last8 H).take (j - (N - 8))).sum + z := by
  subst hN
  obtain ⟨_, rfl⟩ := List.getElem?_eq_some_iff.1 hz
  have hT : (last8 H).length = H.length - (H.length - 8) := by unfold last8; rw [List.length_drop]
  rw [show j + 1 - (H.length - 8) = (j - (H.length - 8)) + 1 by omega, sum_take_succ _ _ (by rw [hT]; omega)]
  congr 1
  unfold last8
  rw [List.getElem_drop]
  congr 1
  omega
theorem last_all (H : List Int) : (last8 H).take (H.length - (H.length - 8)) = last8 H := List.take_of_length_le (by unfold last8; rw [List.length_drop]; omega)
theorem last_in {H : List Int} (h : ∀ x ∈ H, 0 ≤ x ∧ x ≤ 8) (q : Nat) : 0 ≤ ((last8 H).take q).sum ∧ ((last8 H).take q).sum ≤ 64 :=
  sum_take_in (fun x hx => h x (List.mem_of_mem_drop hx)) (by rw [List.length_drop]; omega) q
theorem last_good (H : List Int) : inB (last8 H) = (decide (H.length < 8) || (decide (7 ≤ (last8 H).sum) && decide ((last8 H).sum ≤ 9))) := by
  unfold inB
  congr 1
  unfold last8
  rw [List.length_drop]
  exact decide_eq_decide.2 (by omega)
section
variable {g : Nat} {H : List Int} {kp : Bool} {S : Nat → Prop} {w : World}
theorem refstep_turns (x : Int) (hel : ∀ z ∈ H, 0 ≤ z ∧ z ≤ 8) (hlen : H.length ≤ 1000) :
    Turns (RK g H kp) (RK g (H ++ [clampF x]) (kp && inB (last8 (H ++ [clampF x])))) 13 #[.pointer (some ⟨g, 0, none⟩), .int .i64 x] (.returned (.int .i64 (H ++ [clampF x]).sum)) := by
  rintro S w hS ⟨A, cap, h⟩
  have HX : Hid (min (max x 0) 8 = clampF x) := Lib.hid rfl
  obtain ⟨y, hy⟩ : ∃ y, y = clampF x := ⟨_, rfl⟩
  have hc1 := clamp_lo x
  have hc2 := clamp_hi x
  rw [← hy] at HX hc1 hc2 ⊢
  have hH := sum_le hel
  obtain ⟨s, hs⟩ : ∃ s, s = H.sum := ⟨_, rfl⟩
  have hsn : (H ++ [y]).sum = s + y := by rw [List.sum_append, hs]; simp
  have ew0 : IntKind.i64.wrap (s + y) = s + y := IntWalk.i64_in _ (by omega)
  have hsits := h.sits
  have hrow := h.row
  rw [← hs] at hsits
  have c0 := hsits.cell 0
  have f0 := hsits.warm 0
  have hlt := hsits.lt
  have hgne : ∀ b, (Value.slice A H.length cap).ownBlock = some b → b ≠ g := fun b hb e => by
    obtain ⟨cur, hcur⟩ := hrow.sits b hb
    exact hcur.apart hsits (by decide) e
  have hs1 := hsits.put 0 (.int .i64 (s + y))
  have hrow1 : IRow (w.setCell ⟨g, 0, none⟩ (.int .i64 (s + y))) 0 (.slice A H.length cap) H := hrow.keep fun b hb => Below.heap_setCell _ _ _ _ (show b ≠ g from hgne b hb)
  have hm1 := (Many.refl S w).store h.g 0 (.int .i64 (s + y))
  obtain ⟨W1, hW1⟩ : ∃ W1, W1 = w.setCell ⟨g, 0, none⟩ (.int .i64 (s + y)) := ⟨_, rfl⟩
  rw [← hW1] at hs1 hrow1 hm1
  have hmx : maxLen = 9223372036854775807 := by decide
  obtain ⟨v2, W2, hr2, hX2, gr2, -⟩ := appendAt_src elem_int (RowAt.nil W1 W1.heap.size 3 1) (IRow.src hrow1) 22 (by omega) (by omega) (Nat.le_refl _)
  rw [List.nil_append, Nat.zero_add] at hX2
  have hb2 : Below W1.heap.size W1 W2 := (Below.refl _ W1).grown gr2 (Nat.le_refl _) (fun k hk => by simp [Value.ownBlock] at hk)
  obtain ⟨A2, c2, rfl, -, -, -, -⟩ := hX2.form
  obtain ⟨A3, c3, W3, hr3, hX3, hb3, -, hle3, hcap3⟩ := pushI_one (W := W2) hX2 y hb2.size (by omega) 22
  have hb13 : Below W1.heap.size W1 W3 := hb2.trans hb3
  obtain ⟨H', hH'⟩ : ∃ H', H' = H ++ [y] := ⟨_, rfl⟩
  obtain ⟨N, hN⟩ : ∃ N, N = H.length + 1 := ⟨_, rfl⟩
  have hl' : H'.length = N := by rw [hH', hN]; simp
  rw [← hN] at hr3 hX3 hle3
  rw [← hH'] at hX3 hsn ⊢
  have hs3 := hs1.below' hb13
  have k1 := hs3.cell 1
  have g1 := hs3.warm 1
  have l1 : W1.cell? ⟨g, 1, none⟩ = some (.slice A H.length cap) := hs1.cell 1
  have hlt1 := hs1.lt
  have hlt3 := hs3.lt
  have hs4 := hs3.put 1 (.slice A3 N c3)
  have hown3 : ∀ b, (Value.slice A3 N c3).ownBlock = some b → W1.heap.size ≤ b := fun b hb => (hX3.lt b hb).1
  have hX4 : IRow (W3.setCell ⟨g, 1, none⟩ (.slice A3 N c3)) 0 (.slice A3 N c3) H' := by
    have h9 := RowAt.mono hX3 (Nat.zero_le _)
    rw [← hl'] at h9
    have h8 : IRow W3 0 (.slice A3 H'.length c3) H' := h9
    rw [← hl']
    exact h8.keep fun b hb => Below.heap_setCell _ _ _ _ (show b ≠ g by rw [hl'] at hb; have := hown3 b hb; omega)
  have hm4 := (hm1.trans (Many.of_below S hb13)).store h.g 1 (.slice A3 N c3)
  obtain ⟨W4, hW4⟩ : ∃ W4, W4 = W3.setCell ⟨g, 1, none⟩ (.slice A3 N c3) := ⟨_, rfl⟩
  rw [← hW4] at hs4 hX4 hm4
  have hs4 : Sits W4 g 28 #[.int .i64 (s + y), .slice A3 N c3, .bool kp] := hs4
  have n0 : W4.cell? ⟨g, 0, none⟩ = some (.int .i64 (s + y)) := hs4.cell 0
  have n1 : W4.cell? ⟨g, 1, none⟩ = some (.slice A3 N c3) := hs4.cell 1
  have n2 : W4.cell? ⟨g, 2, none⟩ = some (.bool kp) := hs4.cell 2
  have m2 := hs4.warm 2
  have hlt4 := hs4.lt
  have HEND : Hid (∀ k', RK g H' k' S (W4.setCell ⟨g, 2, none⟩ (.bool k')) ∧ Many S w (W4.setCell ⟨g, 2, none⟩ (.bool k'))) := Lib.hid fun k' => by
    refine ⟨⟨A3, c3, ?_, ?_, ?_, h.g⟩, hm4.store h.g 2 _⟩
    · have := hs4.put 2 (.bool k')
      rw [hl', hsn]
      exact this
    · rw [hl']
      exact hX4.keep fun b hb => Below.heap_setCell _ _ _ _ (show b ≠ g by have := hown3 b hb; omega)
    · rw [hl']
      exact fun b hb => hS b (Nat.le_trans hm1.size (hown3 b hb))
  have HN2 : Hid (Many S w W4 ∧ RK g H' kp S W4) := Lib.hid ⟨hm4, A3, c3, by rw [hl', hsn]; exact hs4, by rw [hl']; exact hX4, by rw [hl']; exact fun b hb => hS b (Nat.le_trans hm1.size (hown3 b hb)), h.g⟩
  have hel' : ∀ z ∈ H', 0 ≤ z ∧ z ≤ 8 := fun z hz => by
    rw [hH'] at hz
    rcases List.mem_append.1 hz with hz | hz
    · exact hel z hz
    · rw [List.mem_singleton.1 hz]; omega
  have hgd := last_good H'
  have hat := last_at H' N hl'
  have hall := last_all H'
  have hin := last_in hel'
  have hcl : ∀ i, i < N → ∃ b o z, A3 = some ⟨b, o, none⟩ ∧ H'[i]? = some z ∧ W4.cell? ⟨b, o + i, none⟩ = some (.int .i64 z) := fun i hi => by
    obtain ⟨A', cap', e, -, -, h9⟩ := rowI_at (l := H') (by rw [← hl'] at hX4; exact hX4)
    simp only [Value.slice.injEq] at e
    obtain ⟨rfl, -, rfl⟩ := e
    obtain ⟨b, o, e1, e2⟩ := h9 i (by omega)
    exact ⟨b, o, _, e1, List.getElem?_eq_getElem (by omega), e2⟩
  obtain ⟨T, hT⟩ : ∃ T, T = last8 H' := ⟨_, rfl⟩
  rw [← hT] at hgd hat hall hin ⊢
  rw [hl'] at hgd hall
  have HL : Hid (H'.length = N) := Lib.hid hl'
  have HG := Lib.hid hgd
  have HAT := Lib.hid hat
  have HALL := Lib.hid hall
  have HIN := Lib.hid hin
  have HCL := Lib.hid hcl
  have HW1 := Lib.hid hW1
  have HW4 := Lib.hid hW4
  have hN9 : (N : Int) ≤ 1001 := by omega
  have HR2 := Lib.hid hr2
  have HR3 := Lib.hid hr3
  have hcap3I : (N : Int) ≤ (c3 : Int) := by omega
  have HSN := Lib.hid hsn
  rw [hsn]
  rw [hW1] at l1 hlt1
  rw [hW4] at n0 n1 n2 m2 hlt4
  clear h hs hsn hsits hrow hrow1 hgne hs1 hm1 hX2 gr2 hb2 hX3 hb3 hb13 hN hl' hs3 hs4 hown3 hX4 hm4 hel' hgd hat hall hin hcl hT hW1 hW4 hH' hy hc1 hc2 hH hS hel hr2 hr3 hmx hle3 hlen
  by_cases h8 : 8 ≤ N
  rotate_left
  · have t8 : decide (8 ≤ (N : Int)) = false := decide_eq_false (by omega)
    have HK : Hid ((kp && inB T) = kp) := Lib.hid (by
      have h9 := HG.out
      rw [h9, show decide (N < 8) = true from decide_eq_true (by omega), Bool.true_or, Bool.and_true])
    clear h8 n2 m2
    go_enter Try.func13, Try.ntmps13
    go_wp2_with (first | ((with_reducible refine at_list ?_); refine wpList_max_eq rfl (.tmp 8) (.const (.int .i64 0)) _ rfl _ _ _ _ _ rfl rfl rfl ?_) | ((with_reducible refine at_list ?_); refine wpList_min_eq rfl (.tmp 9) (.const (.int .i64 8)) _ rfl _ _ _ _ _ rfl rfl HX.out ?_) | (at_builtin; rw [← HW1.out]; refine wpList_append_eq rfl (.const (.slice none 0 0)) (.tmp 24) 22 22 rfl _ _ _ rfl rfl HR2.out ?_) | (at_builtin; refine wpList_append_eq rfl (.tmp 25) (.tmp 27) 22 22 rfl _ _ _ rfl rfl HR3.out ?_))
    go_ret
    rw [HK.out, ← HW4.out]
    exact ⟨rfl, HN2.out.2, HN2.out.1⟩
  · have t8 : decide (8 ≤ (N : Int)) = true := decide_eq_true (by omega)
    obtain ⟨a, ha⟩ : ∃ a, a = N - 8 := ⟨_, rfl⟩
    have ewa : IntKind.i64.wrap ((N : Int) - 8) = (a : Int) := by
      have : (N : Int) - 8 = (a : Int) := by omega
      rw [this]
      exact IntWalk.i64_in _ (by omega)
    rw [← ha] at HAT HALL
    have HA : Hid (a = N - 8) := Lib.hid ha
    have HG8 : Hid (inB T = (decide (7 ≤ T.sum) && decide (T.sum ≤ 9))) := Lib.hid (by
      have h9 := HG.out
      rw [h9, show decide (N < 8) = false from decide_eq_false (by omega), Bool.false_or])
    clear ha h8
    go_enter Try.func13, Try.ntmps13
    go_wp2_with (first | ((with_reducible refine at_list ?_); refine wpList_max_eq rfl (.tmp 8) (.const (.int .i64 0)) _ rfl _ _ _ _ _ rfl rfl rfl ?_) | ((with_reducible refine at_list ?_); refine wpList_min_eq rfl (.tmp 9) (.const (.int .i64 8)) _ rfl _ _ _ _ _ rfl rfl HX.out ?_) | (at_builtin; rw [← HW1.out]; refine wpList_append_eq rfl (.const (.slice none 0 0)) (.tmp 24) 22 22 rfl _ _ _ rfl rfl HR2.out ?_) | (at_builtin; refine wpList_append_eq rfl (.tmp 25) (.tmp 27) 22 22 rfl _ _ _ rfl rfl HR3.out ?_))
    rw [← HW4.out] at n0 n1 n2 m2 hlt4 ⊢
    go_loopw [6, 7] (fun sv iv wr => ∃ j : Nat, a ≤ j ∧ j ≤ N ∧ iv = .int .i64 (j : Int) ∧ sv = .int .i64 (T.take (j - a)).sum ∧ wr = W4) (fun _ i _ => N - (intOf i).toNat)
    case atStart => exact ⟨a, by omega, by have := HA.out; omega, rfl, by simp, rfl⟩
    case round =>
      obtain ⟨j, hj1, hj2, rfl, rfl, rfl⟩ := hrel
      obtain ⟨q, hq⟩ : ∃ q, q = (T.take (j - a)).sum := ⟨_, rfl⟩
      have hqb := HIN.out (j - a)
      rw [← hq] at hqb ⊢
      by_cases hlt2 : j < N
      · have hltJ : (j : Int) < (N : Int) := by omega
        obtain ⟨b, o, z, rfl, hz, hcz⟩ := HCL.out j hlt2
        have hsn := HAT.out j hj1 hlt2 z hz
        have hsb := HIN.out (j + 1 - a)
        rw [hsn, ← hq] at hsb
        rw [← hq] at hsn
        have HSS := Lib.hid hsn
        have ew : IntKind.i64.wrap (q + z) = q + z := IntWalk.i64_in _ (by omega)
        clear hq hsn hz
        go_wp2
        go_roundw
        case rel => exact ⟨j + 1, by omega, by omega, by go_num, by rw [HSS.out], trivial⟩
        case measure => simp [intOf]; omega
      · obtain rfl : j = N := by omega
        have hg := HG8.out
        rw [HALL.out] at hq
        rw [← hq] at hg
        have HG9 := Lib.hid hg
        have hjj : decide ((j : Int) < (j : Int)) = false := decide_eq_false (by omega)
        clear hq hg
        cases kp <;> cases d2 : decide (7 ≤ q) <;> cases d3 : decide (q ≤ 9)
        all_goals
          have hg := HG9.out
          rw [d2, d3] at hg
          simp only [Bool.false_and, Bool.true_and] at hg
          have HGG := Lib.hid hg
          have E0 := (HEND.out false)
          have E1 := (HEND.out true)
          have e0 : (wr.setCell ⟨g, 2, none⟩ (.bool false)).cell? ⟨g, 0, none⟩ = some (.int .i64 (s + y)) := by
            obtain ⟨⟨_, _, h9⟩, _⟩ := E0
            have := h9.sits.cell 0
            rw [HSN.out] at this
            exact this
          have e1 : (wr.setCell ⟨g, 2, none⟩ (.bool true)).cell? ⟨g, 0, none⟩ = some (.int .i64 (s + y)) := by
            obtain ⟨⟨_, _, h9⟩, _⟩ := E1
            have := h9.sits.cell 0
            rw [HSN.out] at this
            exact this
          clear hg E0 E1
          go_wp2
          go_ret
          rw [HGG.out]
          exact ⟨rfl, HEND.out _⟩
end
end Go.Proofs.Ytbgogbelnipfdaa
