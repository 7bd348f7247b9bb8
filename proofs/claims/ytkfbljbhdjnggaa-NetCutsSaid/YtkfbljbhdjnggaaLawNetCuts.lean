/- The statement NetCuts of package net: between ends that are cut nothing is sent, in both ways, between others it is, and there is room for just so many; it holds of every four ints. -/
import Derived.Test.YtkfbljbhdjnggaaNtF
import Derived.OpenShut
import Derived.ChangeOld
namespace Go.Proofs.Ytkfbljbhdjnggaa
open Go Go.RowKit Go.ChangeShapes Go.WideShapes Go.ChangeAt NetP
set_option maxRecDepth 100000
set_option maxHeartbeats 2000000
set_option linter.unusedSimpArgs false

namespace NetP
theorem send_same (x : Pk) : ∀ (n : Nat) (L : List Pk) (k : Nat), L.length ≤ 900 → (List.replicate n x).foldl (send1 []) (L, k) = (L ++ List.replicate (min n (900 - L.length)) x, k + min n (900 - L.length))
  | 0, L, k, _ => by simp
  | n + 1, L, k, h => by
    rw [List.replicate_succ, List.foldl_cons]
    by_cases hl : 900 ≤ L.length
    · have : send1 [] (L, k) x = (L, k) := by unfold send1 lostB; rw [if_pos (by simp [hl])]
      rw [this, send_same x n L k h, show 900 - L.length = 0 by omega]
      simp
    · have : send1 [] (L, k) x = (L ++ [x], k + 1) := by unfold send1 lostB; rw [if_neg (by simp [hl])]
      rw [this, send_same x n (L ++ [x]) (k + 1) (by rw [List.length_append]; simp; omega), List.length_append, List.length_singleton]
      obtain ⟨m, hm⟩ : ∃ m, m = min n (900 - (L.length + 1)) := ⟨_, rfl⟩
      rw [show min (n + 1) (900 - L.length) = m + 1 by omega, ← hm, List.replicate_succ, List.append_assoc, List.singleton_append]
      simp
      omega
end NetP
theorem made_zeros (n : Nat) : madeCells #[Value.int .i64 0, Value.int .i64 0, Value.string ⟨#[]⟩] (n * 3) = ((List.replicate n (⟨0, 0, []⟩ : Pk)).flatMap encK).toArray := by
  have hl : ((List.replicate n (⟨0, 0, []⟩ : Pk)).flatMap encK).length = n * 3 := by rw [encK_flat, List.length_replicate]
  apply Array.ext
  · rw [size_madeCells, List.size_toArray, hl]
  · intro i h1 h2
    rw [size_madeCells] at h1
    have hd : i / 3 < n := by omega
    have hv : ∀ j u, i = i / 3 * 3 + j → (encK (⟨0, 0, []⟩ : Pk))[j]? = some u → ((List.replicate n (⟨0, 0, []⟩ : Pk)).flatMap encK).toArray[i] = u := fun j u hi hu => by
      have := flat_at (f := encK) (k := 3) (fun _ => rfl) (List.replicate n (⟨0, 0, []⟩ : Pk)) (i / 3) (by rw [List.length_replicate]; exact hd) j u (by rw [List.getElem_replicate]; exact hu)
      rw [← hi] at this
      rw [List.getElem_toArray]
      exact Option.some.inj ((List.getElem?_eq_getElem (by rw [hl]; exact h1)).symm.trans this)
    have hq : (madeCells #[Value.int .i64 0, Value.int .i64 0, Value.string ⟨#[]⟩] (n * 3))[i]'(by rw [size_madeCells]; exact h1) = #[Value.int .i64 0, Value.int .i64 0, Value.string ⟨#[]⟩][i % 3]! := by simp [madeCells]
    rw [hq]
    have hm : i % 3 = 0 ∨ i % 3 = 1 ∨ i % 3 = 2 := by omega
    rcases hm with e | e | e
    · rw [hv 0 (.int .i64 0) (by omega) rfl]; simp [e]
    · rw [hv 1 (.int .i64 0) (by omega) rfl]; simp [e]
    · rw [hv 2 (.string ⟨#[]⟩) (by omega) rfl]; simp [e]
theorem netCuts_out (a b c n : Int) (h : n < 0 ∨ 1000 < n ∨ a = b ∨ a = c ∨ b = c) (w : World) : Calls Try.prog 6 #[.int .i64 a, .int .i64 b, .int .i64 c, .int .i64 n] w fun e w' => e = .returned (.bool true) ∧ Below w.heap.size w w' := by
  have HA := Lib.hid alive14_any
  obtain ⟨q1, h1⟩ : ∃ q, q = decide (n < 0) := ⟨_, rfl⟩
  obtain ⟨q2, h2⟩ : ∃ q, q = decide (1000 < n) := ⟨_, rfl⟩
  obtain ⟨q3, h3⟩ : ∃ q, q = (a == b) := ⟨_, rfl⟩
  obtain ⟨q4, h4⟩ : ∃ q, q = (a == c) := ⟨_, rfl⟩
  obtain ⟨q5, h5⟩ : ∃ q, q = (b == c) := ⟨_, rfl⟩
  have hq : (q1 || q2 || q3 || q4 || q5) = true := by
    rw [h1, h2, h3, h4, h5]
    simp only [Bool.or_eq_true, decide_eq_true_eq, beq_iff_eq]
    omega
  replace h1 := h1.symm
  replace h2 := h2.symm
  replace h3 := h3.symm
  replace h4 := h4.symm
  replace h5 := h5.symm
  clear h
  cases q1 with
  | true =>
    clear h2 h3 h4 h5 hq
    go_enter Try.func6, Try.ntmps6
    go_wp2_with fail
    refine (HA.out _).mono ?_
    rintro e w1 ⟨rfl, hb⟩
    go_wp2
    go_ret
    exact ⟨rfl, hb⟩
  | false =>
    cases q2 with
    | true =>
      clear h3 h4 h5 hq
      go_enter Try.func6, Try.ntmps6
      go_wp2_with fail
      refine (HA.out _).mono ?_
      rintro e w1 ⟨rfl, hb⟩
      go_wp2
      go_ret
      exact ⟨rfl, hb⟩
    | false =>
      cases q3 with
      | true =>
        clear h4 h5 hq
        go_enter Try.func6, Try.ntmps6
        go_wp2_with fail
        refine (HA.out _).mono ?_
        rintro e w1 ⟨rfl, hb⟩
        go_wp2
        go_ret
        exact ⟨rfl, hb⟩
      | false =>
        cases q4 with
        | true =>
          clear h5 hq
          go_enter Try.func6, Try.ntmps6
          go_wp2_with fail
          refine (HA.out _).mono ?_
          rintro e w1 ⟨rfl, hb⟩
          go_wp2
          go_ret
          exact ⟨rfl, hb⟩
        | false =>
          cases q5 with
          | true =>
            clear hq
            go_enter Try.func6, Try.ntmps6
            go_wp2_with fail
            refine (HA.out _).mono ?_
            rintro e w1 ⟨rfl, hb⟩
            go_wp2
            go_ret
            exact ⟨rfl, hb⟩
          | false => cases hq
theorem netCuts_walk (a : Int) (wa : (Lit.int .i64 a).wf = true) (b : Int) (wb : (Lit.int .i64 b).wf = true) (c : Int) (wc : (Lit.int .i64 c).wf = true) (n : Int) (_wn : (Lit.int .i64 n).wf = true) (w : World) :
    Calls Try.prog 6 #[.int .i64 a, .int .i64 b, .int .i64 c, .int .i64 n] w fun e w' => e = .returned (.bool true) ∧ Below w.heap.size w w' := by
  by_cases h : n < 0 ∨ 1000 < n ∨ a = b ∨ a = c ∨ b = c
  · exact netCuts_out a b c n h w
  obtain ⟨m, rfl⟩ := Int.eq_ofNat_of_zero_le (show 0 ≤ n by omega)
  have hm : m ≤ 1000 := by omega
  have d1 : decide ((m : Int) < 0) = false := decide_eq_false (by omega)
  have d2 : decide (1000 < (m : Int)) = false := decide_eq_false (by omega)
  have d3 : (a == b) = false := by simp; omega
  have d4 : (a == c) = false := by simp; omega
  have d5 : (b == c) = false := by simp; omega
  have hab : InR (a, b) := ⟨wa, wb⟩
  have hba : InR (b, a) := ⟨wb, wa⟩
  have hac : InR (a, c) := ⟨wa, wc⟩
  have he : endsP b a = endsP a b := by unfold endsP; rw [Int.min_comm, Int.max_comm]
  have hne : endsP a c ≠ endsP a b := by
    unfold endsP
    intro e
    rw [Prod.mk.injEq] at e
    omega
  have hc1 : cutF [] a b true = [endsP a b] := rfl
  have hc2 : cutF [endsP a b] b a false = [] := by unfold cutF; simp [he]
  have hs1 : sendF [endsP a b] [] [⟨a, b, []⟩, ⟨b, a, []⟩, ⟨a, c, []⟩] = ([⟨a, c, []⟩], 1) := by
    unfold sendF send1 lostB
    simp [he, hne]
  have hs2 : sendF [] [⟨a, c, []⟩] [⟨b, a, []⟩] = ([⟨a, c, []⟩, ⟨b, a, []⟩], 1) := by
    unfold sendF send1 lostB
    simp
  obtain ⟨r, hr⟩ : ∃ r, r = min m 898 := ⟨_, rfl⟩
  obtain ⟨L3, hL3⟩ : ∃ L3, L3 = [⟨a, c, []⟩, ⟨b, a, []⟩] ++ List.replicate r (⟨0, 0, []⟩ : Pk) := ⟨_, rfl⟩
  have hs3 : sendF [] [⟨a, c, []⟩, ⟨b, a, []⟩] (List.replicate m ⟨0, 0, []⟩) = (L3, r) := by
    unfold sendF
    rw [send_same _ _ _ _ (by simp), hL3, hr]
    simp
  have hl3 : (L3.length : Int) = 2 + (r : Int) := by rw [hL3]; simp; omega
  have HA := Lib.hid alive14_any
  have HT := Lib.hid (And.intro hc1 (And.intro hc2 (And.intro hs1 (And.intro hs2 hs3))))
  have HI := Lib.hid (And.intro hab (And.intro hba hac))
  have HN := Lib.hid (netNew_any w)
  have hmin : (if (898 : Int) < (m : Int) then (898 : Int) else (m : Int)) = (r : Int) := by split <;> omega
  have HL3 := Lib.hid hl3
  have HM := Lib.hid hm
  have hrI : (r : Int) ≤ 900 := by omega
  have hw2 : IntKind.i64.wrap (2 + (r : Int)) = 2 + (r : Int) := IntWalk.i64_in _ (by omega)
  clear h he hne hc1 hc2 hs1 hs2 hs3 hr hL3 hl3 hab hba hac wa wb wc
  go_enter Try.func6, Try.ntmps6
  go_wp2_with fail
  refine HN.out.mono ?_
  rintro e w1 ⟨g, rfl, h1⟩
  have hcut := (tcut (g := g) (c := 0) (L := []) (C := []) a b HI.out.1 true (by decide)).has (h1.imp (A' := NX g 0 [] []) fun _ h => .inl h)
  rw [HT.out.1] at hcut
  have HC := Lib.hid hcut
  clear h1 hcut HN
  go_wp2_with fail
  refine HC.out.mono ?_
  rintro e w2 ⟨rfl, h2⟩
  have hb2 : Below w2.heap.size w2 (w2.alloc (.cells #[.int .i64 a, .int .i64 b, .string ⟨#[]⟩, .int .i64 b, .int .i64 a, .string ⟨#[]⟩, .int .i64 a, .int .i64 c, .string ⟨#[]⟩] 45)) := (Below.refl _ w2).alloc (Nat.le_refl _) _
  have hsd := (tsend (g := g) (c := 1) (L := []) (C := [endsP a b]) (.slice (some ⟨w2.heap.size, 0, none⟩) 3 3) [⟨a, b, []⟩, ⟨b, a, []⟩, ⟨a, c, []⟩] (by simp) (fun x hx => by
    simp only [List.mem_cons, List.not_mem_nil, or_false] at hx
    rcases hx with rfl | rfl | rfl
    · exact HI.out.1
    · exact HI.out.2.1
    · exact HI.out.2.2)).has (holdNX _ _ _ _) (holdNN _ _ _ _) (h2.imp (A' := NX g 1 [] [endsP a b]) fun _ h => .inl h) hb2 (fun S w' hS hm => pks_sits (l := [⟨a, b, []⟩, ⟨b, a, []⟩, ⟨a, c, []⟩]) ((Sits.fresh w2 45 #[.int .i64 a, .int .i64 b, .string ⟨#[]⟩, .int .i64 b, .int .i64 a, .string ⟨#[]⟩, .int .i64 a, .int .i64 c, .string ⟨#[]⟩]).many hm fun h => by have := hS _ h; rw [World.size_alloc] at this; omega) (by simp) (by decide))
  rw [HT.out.2.2.1] at hsd
  have HSD := Lib.hid hsd
  clear h2 hb2 hsd HC
  go_wp2_with fail
  refine HSD.out.mono ?_
  rintro e w3 ⟨rfl, h3, -⟩
  have hcut := (tcut (g := g) (c := 1) (L := [⟨a, c, []⟩]) (C := [endsP a b]) b a HI.out.2.1 false (by decide)).has (h3.imp (A' := NX g 1 [⟨a, c, []⟩] [endsP a b]) fun _ h => .inl h)
  rw [HT.out.2.1] at hcut
  have HC2 := Lib.hid hcut
  clear h3 hcut HSD
  go_wp2_with fail
  refine HC2.out.mono ?_
  rintro e w4 ⟨rfl, h4⟩
  have hb4 : Below w4.heap.size w4 (w4.alloc (.cells #[.int .i64 b, .int .i64 a, .string ⟨#[]⟩] 45)) := (Below.refl _ w4).alloc (Nat.le_refl _) _
  have hsd := (tsend (g := g) (c := 2) (L := [⟨a, c, []⟩]) (C := []) (.slice (some ⟨w4.heap.size, 0, none⟩) 1 1) [⟨b, a, []⟩] (by simp) (fun x hx => by
    simp only [List.mem_cons, List.not_mem_nil, or_false] at hx
    subst hx
    exact HI.out.2.1)).has (holdNX _ _ _ _) (holdNN _ _ _ _) (h4.imp (A' := NX g 2 [⟨a, c, []⟩] []) fun _ h => .inl h) hb4 (fun S w' hS hm => pks_sits (l := [⟨b, a, []⟩]) ((Sits.fresh w4 45 #[.int .i64 b, .int .i64 a, .string ⟨#[]⟩]).many hm fun h => by have := hS _ h; rw [World.size_alloc] at this; omega) (by simp) (by decide))
  rw [HT.out.2.2.2.1] at hsd
  have HSD2 := Lib.hid hsd
  clear h4 hb4 hsd HC2
  go_wp2_with fail
  refine HSD2.out.mono ?_
  rintro e w5 ⟨rfl, h5, -⟩
  obtain ⟨i0, hi, hz0, hz1, hz2⟩ := info_parts infoK
  have hmk := run_make (P := Try.prog) w5 35 45 i0 _ Try.underlying35 hi hz0 .i64 .i64 m m (by omega) (by omega) (by rw [hz2]; omega) (by omega)
  simp only [Int.toNat_natCast, hz1] at hmk
  rw [show (Value.agg #[(.int .i64 0), (.int .i64 0), (.string ⟨#[]⟩)]).cells = #[Value.int .i64 0, Value.int .i64 0, Value.string ⟨#[]⟩] from rfl, made_zeros m] at hmk
  obtain ⟨cs, hcs⟩ : ∃ cs, cs = ((List.replicate m (⟨0, 0, []⟩ : Pk)).flatMap encK).toArray := ⟨_, rfl⟩
  rw [← hcs] at hmk
  have hb5 : Below w5.heap.size w5 (w5.alloc (.cells cs 45)) := (Below.refl _ w5).alloc (Nat.le_refl _) _
  have hpk : ∀ W, Sits W w5.heap.size 45 cs → Pks W (.slice (some ⟨w5.heap.size, 0, none⟩) m m) (List.replicate m ⟨0, 0, []⟩) := fun W hW => by
    have := pks_sits (cap := m) (l := List.replicate m ⟨0, 0, []⟩) (hcs ▸ hW) (by rw [List.length_replicate]; omega) (by have := HM.out; omega)
    rwa [List.length_replicate] at this
  have hsd := (tsend (g := g) (c := 2) (L := [⟨a, c, []⟩, ⟨b, a, []⟩]) (C := []) (.slice (some ⟨w5.heap.size, 0, none⟩) m m) (List.replicate m ⟨0, 0, []⟩) (by rw [List.length_replicate]; have := HM.out; omega) (fun x hx => by
    obtain rfl := (List.mem_replicate.1 hx).2
    exact ⟨rfl, rfl⟩)).has (holdNX _ _ _ _) (holdNN _ _ _ _) (h5.imp (A' := NX g 2 [⟨a, c, []⟩, ⟨b, a, []⟩] []) fun _ h => .inl h) hb5 (fun S w' hS hm => hpk _ ((Sits.fresh w5 45 cs).many hm fun h => by have := hS _ h; rw [World.size_alloc] at this; omega))
  rw [HT.out.2.2.2.2] at hsd
  have HSD3 := Lib.hid hsd
  clear h5 hb5 hsd HSD2 hpk hcs hi hz0 hz1 hz2
  go_wp2_with fail
  refine HSD3.out.mono ?_
  rintro e w6 ⟨rfl, h6, -⟩
  have H6 := Lib.hid h6
  clear h6 HSD3 hmk
  go_wp2_with fail
  refine (HA.out w6).mono ?_
  rintro e w7 ⟨rfl, hb7⟩
  have HCL := Lib.hid ((tclear (g := g) (c := 2) (L := L3) (C := [])).has (Has.down (holdNX _ _ _ _) (H6.out.imp (A' := NX g 2 L3 []) fun _ h => .inl h) hb7))
  clear hb7 H6
  go_wp2_with fail
  refine HCL.out.mono ?_
  rintro e w8 ⟨rfl, h8⟩
  have HLN := Lib.hid ((nlen_any h8.here).mono fun e w' ⟨he, hw⟩ => And.intro he (And.intro hw h8.below))
  have hl := HL3.out
  rw [hl]
  clear h8 HCL hl
  go_wp2_with fail
  refine HLN.out.mono ?_
  rintro e w9 ⟨rfl, rfl, hb9⟩
  have HB9 := Lib.hid hb9
  clear hb9
  go_wp2
  go_ret
  exact ⟨rfl, HB9.out⟩

set_option maxRecDepth 100000 in
theorem netCuts_lifted (os : Os) (started : os.Started) (H : Type) (enc : TypeId × Value → H) :
    ReturnsInHanded {} Try.checked os 6 .any (Rows.netCutsSpec.pre6 enc Try.prog Try.f6 Rows.netCutsRow.domain false) (Rows.netCutsSpec.post enc Try.prog Try.f6 false true false false) := by
  refine returnsInHanded_of_change (C := Try.checked) own started (by kernel_rfl) Try.func6
    (ChangeSpec.witness6 (enc := enc) (C := Try.checked) false ⟨#[], #[.int .i64 0, .int .i64 0, .int .i64 0, .int .i64 0], []⟩ 8 (by kernel_rfl) (by kernel_rfl) (by kernel_rfl) (by kernel_rfl)) ?_
  intro W base args ds gs before hval0 hW _ _
  have hval : ∀ (j : Nat) t v, Try.f6.params[j]? = some t → args[j]? = some v → Value.okWide Try.prog W .any base t v := hval0
  have hW' := hW
  obtain ⟨p, q, hA0, hV, rfl, hfz, hnd⟩ := hW
  have hA : DataW.TrodAll enc Try.prog W 0 (fun _ => true) true Try.f6.params.toList args.toList ds p := hA0
  rw [Try.params6] at hA hval
  obtain ⟨v0, vs0, d0, ds0, p0, q0, hargs, rfl, rfl, h0, r0⟩ := trodAll_cons hA
  obtain ⟨v1, vs1, d1, ds1, p1, q1, rfl, rfl, rfl, h1, r1⟩ := trodAll_cons r0
  obtain ⟨v2, vs2, d2, ds2, p2, q2, rfl, rfl, rfl, h2, r2⟩ := trodAll_cons r1
  obtain ⟨v3, vs3, d3, ds3, p3, q3, rfl, rfl, rfl, h3, r3⟩ := trodAll_cons r2
  obtain ⟨rfl, rfl, rfl⟩ := trodAll_nil r3
  obtain rfl : args = #[v0, v1, v2, v3] := by cases args; simp_all
  obtain ⟨rfl, rfl⟩ := trodVars_none hV
  have k0 := h0
  have lt0 : ∀ x ∈ p0, x.block < W.heap.size := by obtain ⟨m, hm⟩ := k0; exact DataW.trod_lt m _ _ _ hm
  have k1 := h1
  have lt1 : ∀ x ∈ p1, x.block < W.heap.size := by obtain ⟨m, hm⟩ := k1; exact DataW.trod_lt m _ _ _ hm
  have k2 := h2
  have lt2 : ∀ x ∈ p2, x.block < W.heap.size := by obtain ⟨m, hm⟩ := k2; exact DataW.trod_lt m _ _ _ hm
  have k3 := h3
  have lt3 : ∀ x ∈ p3, x.block < W.heap.size := by obtain ⟨m, hm⟩ := k3; exact DataW.trod_lt m _ _ _ hm
  obtain ⟨a0, rfl, rfl, rfl, w0⟩ := open_int Try.underlying3 (hval 0 3 v0 rfl rfl) h0
  obtain ⟨a1, rfl, rfl, rfl, w1⟩ := open_int Try.underlying3 (hval 1 3 v1 rfl rfl) h1
  obtain ⟨a2, rfl, rfl, rfl, w2⟩ := open_int Try.underlying3 (hval 2 3 v2 rfl rfl) h2
  obtain ⟨a3, rfl, rfl, rfl, w3⟩ := open_int Try.underlying3 (hval 3 3 v3 rfl rfl) h3
  clear hA0 hval0
  refine (netCuts_walk a0 w0 a1 w1 a2 w2 a3 w3 W).mono fun e W' ⟨he, bel⟩ => ?_
  subst he
  exact ⟨_, rfl, _, _, _, [], _, [], hW', trodAll_mk1 (shut_bool Try.underlying4 _), (trodAll_cons_mk (Below.trod laidOut (by kernel_rfl) (of_decide_eq_true (by kernel_rfl)) k0 bel lt0) (trodAll_cons_mk (Below.trod laidOut (by kernel_rfl) (of_decide_eq_true (by kernel_rfl)) k1 bel lt1) (trodAll_cons_mk (Below.trod laidOut (by kernel_rfl) (of_decide_eq_true (by kernel_rfl)) k2 bel lt2) (trodAll_cons_mk (Below.trod laidOut (by kernel_rfl) (of_decide_eq_true (by kernel_rfl)) k3 bel lt3) trodAll_mk0)))), rfl, bel.frame _, fun h => by cases h⟩

theorem netCuts_said : Rows.NetCutsSaid :=
  OpenClaim.holds_of_wide 6 Try.f6 rfl rfl rfl rfl rfl rfl rfl ⟨rfl, rfl, rfl, rfl, rfl⟩ rfl rfl rfl rfl rfl (by kernel_rfl) Try.func6 (by unfold joinedFacts; simp only [Bool.and_eq_true]; and_intros <;> as_aux_lemma => kernel_rfl)
    (of_decide_eq_true (by kernel_rfl)) (by unfold Func.isWrapper; first | (rw [if_pos (by decide +kernel)]; kernel_rfl) | (rw [if_neg (by decide +kernel)]; exact ⟨rfl, rfl⟩))
    (fun os started H enc _ => netCuts_lifted os started H enc)
#print axioms netCuts_said
end Go.Proofs.Ytkfbljbhdjnggaa
