/- ImapSwaps: a swap changes just the blocks that have the one value; swapped back, where the other one was not there, all is as it was; whatever was set, whatever the span and the two values are. -/
import Derived.Test.YtalmcflcpljnmaaImapH
import Derived.Test.YtalmcflcpljnmaaImapO
import Derived.Test.YtalmcflcpljnmaaSpanF
import Derived.OpenShut
import Derived.ChangeOld
namespace Go.Proofs.Ytalmcflcpljnmaa
open Go Go.RowKit Go.ChangeShapes Go.WideShapes SpanP PartP ImapP
set_option maxRecDepth 100000
set_option maxHeartbeats 4000000
set_option linter.unusedSimpArgs false

theorem RowAt.shy {w w' : World} {base : Nat} {e : TypeId} {size : Nat} {v : Value} {n : Nat} {xs : List Value} {q : Nat} (h : RowAt w base e size v n xs) (ho : Only q w w') (hq : q < base) : RowAt w' base e size v n xs :=
  h.keep fun k hk => ho.block k (h.lt k hk).2 (by have := (h.lt k hk).1; omega)
theorem Spans.one {w : World} {A : Option Addr} {cap : Nat} {l : List S} (h : Spans w (.slice A l.length cap) l) (k : Nat) (hk : k < l.length) : Spans w (sliced A k (k + 1) cap 2) [l[k]] := by
  obtain ⟨A', cap', e, h1, h2, h3⟩ := h
  simp only [Value.slice.injEq, true_and] at e
  obtain ⟨rfl, rfl⟩ := e
  show SliceAt 2 encS w (.slice (if cap = k then A else A.map (·.add (k * 2))) (k + 1 - k) (cap - k)) [l[k]]
  rw [if_neg (by omega), show k + 1 - k = 1 by omega]
  refine ⟨_, cap - k, rfl, by simp; omega, by omega, fun t ht => ?_⟩
  obtain ⟨b, o, rfl, hb, hc⟩ := h3 k hk
  obtain rfl : t = 0 := by simpa using ht
  refine ⟨b, o + k * 2, by simp [Addr.add], hb, fun j u hu => ?_⟩
  have := hc j u (by simpa using hu)
  rwa [show o + k * 2 + 0 * 2 + j = o + k * 2 + j by omega]
/-- What a swap makes, where the new value was not there. -/
theorem swap_now {L L1 : List (PtV Int)} {s : S} {v u : Int} (_hL : PNorm L) (hu : ∀ b, ¬ Val L b u)
    (h1 : MapOf L1 fun b x => (Has s b ∧ ((Val L b v ∧ x = u) ∨ (Val L b x ∧ x ≠ v))) ∨ (Val L b x ∧ ¬ Has s b)) (b : Int) : In (withV u L1) b ↔ Val L b v ∧ Has s b := by
  rw [withV_in, h1.val]
  constructor
  · rintro (⟨k1, ⟨k2, _⟩ | ⟨k2, _⟩⟩ | ⟨k2, _⟩)
    · exact ⟨k2, k1⟩
    · exact absurd k2 (hu b)
    · exact absurd k2 (hu b)
  · rintro ⟨k1, k2⟩
    exact .inl ⟨k2, .inl ⟨k1, rfl⟩⟩
theorem cntV_of {L : List (PtV Int)} (hL : PNorm L) {s : S} {v : Int} {m : List S} (hm : SpanP.Norm m) (h : ∀ b, In m b ↔ Val L b v ∧ Has s b) : cntV s v L = count m := by
  unfold cntV
  have hP := partsV_map (i := nearII s L) (j := nearJI s L) (fun hs => nearI_ok hL (by unfold Ok at hs; omega)) hL
  rw [norm_ext (withV_norm (v := v) hP.norm) hm fun b => by rw [withV_in, hP.val, h]]
theorem swap_back {L L1 L2 : List (PtV Int)} {s : S} {v u : Int} (hL : PNorm L) (hu : ∀ b, ¬ Val L b u)
    (h1 : MapOf L1 fun b x => (Has s b ∧ ((Val L b v ∧ x = u) ∨ (Val L b x ∧ x ≠ v))) ∨ (Val L b x ∧ ¬ Has s b))
    (h2 : MapOf L2 fun b x => (Has s b ∧ ((Val L1 b u ∧ x = v) ∨ (Val L1 b x ∧ x ≠ u))) ∨ (Val L1 b x ∧ ¬ Has s b)) : L2 = L :=
  pnorm_ext h2.norm hL fun b x => by
    rw [h2.val, h1.val, h1.val]
    have hub := hu b
    by_cases hs : Has s b
    · simp only [hs, true_and, not_true, and_false, or_false]
      constructor
      · rintro (⟨⟨k1, _⟩ | ⟨k1, _⟩, rfl⟩ | ⟨⟨k1, rfl⟩ | ⟨k1, _⟩, k3⟩)
        · exact k1
        · exact absurd k1 hub
        · exact absurd rfl k3
        · exact k1
      · intro k
        by_cases hx : x = v
        · subst hx
          exact .inl ⟨.inl ⟨k, trivial⟩, rfl⟩
        · exact .inr ⟨.inr ⟨k, hx⟩, fun e => hub (e ▸ k)⟩
    · simp only [hs, false_and, false_or, not_false_iff, and_true]
/-- Each span of what has the new value is within the swap's span, and had the old one. -/
theorem now_in {L : List (PtV Int)} {s : S} {v : Int} {m : List S} (hm : SpanP.Norm m) (h : ∀ b, In m b ↔ Val L b v ∧ Has s b) {y : S} (hy : y ∈ m) : s.1 ≤ y.1 ∧ y.2 ≤ s.2 ∧ ∀ b, In [y] b → In (withV v L) b := by
  have ho := hm.ok y hy
  have h1 := ((h y.1).1 ⟨y, hy, ho, Int.le_refl _, ho.2⟩).2.2.1
  have h2 := ((h (y.2 - 1)).1 ⟨y, hy, ho, by unfold Ok at ho; omega, by omega⟩).2.2.2
  refine ⟨h1, by omega, fun b hb => ?_⟩
  rw [withV_in]
  exact ((h b).1 ⟨y, hy, in_one.1 hb⟩).1
theorem imapSwaps_walk (v0 : Value) (l : List Op7) (v1 : Value) (s : S) (v : Int) (_wv : (Lit.int .i64 v).wf = true) (u : Int) (_wu : (Lit.int .i64 u).wf = true) (w : World) (h0 : (∀ x ∈ l, goodO x) ∧ Opl w v0 l)
    (hS : ((-9223372036854775808 ≤ s.1 ∧ s.1 ≤ 9223372036854775807) ∧ (-9223372036854775808 ≤ s.2 ∧ s.2 ≤ 9223372036854775807)) ∧ v1 = aggS s) :
    Calls Try.prog 6 #[v0, v1, .int .i64 v, .int .i64 u] w fun e w' => e = .returned (.bool true) ∧ Below w.heap.size w w' := by
  clear _wv _wu
  obtain ⟨hgood, hs⟩ := h0
  obtain ⟨hb, rfl⟩ := hS
  have HT : Hid (s.2 ≤ top) := Lib.hid (by unfold top; omega)
  obtain ⟨a, b⟩ := s
  obtain ⟨p1, hp1⟩ : ∃ p, p = w.heap.size := ⟨_, rfl⟩
  obtain ⟨w0, hw0⟩ : ∃ w0, w0 = w.alloc (.cells #[.int .i64 a, .int .i64 b] 23) := ⟨_, rfl⟩
  have hb0 : Below w.heap.size w w0 := hw0 ▸ (Below.refl _ w).alloc (Nat.le_refl _) _
  have sp : Sits w0 p1 23 #[.int .i64 a, .int .i64 b] := hw0 ▸ hp1 ▸ Sits.fresh w _ _
  obtain ⟨A, ca, rfl, ha1, ha2, ha3⟩ := Opl.read (hs.below hb0)
  have HA := Lib.hid ha3
  have HG := Lib.hid hgood
  have HB0 := Lib.hid hb0
  have HSP := Lib.hid sp
  unfold aggS
  simp only
  clear ha3 hs hgood hb hb0 sp
  by_cases q0 : (l.length : Int) > 40
  · have d0 : decide ((l.length : Int) > 40) = true := decide_eq_true q0
    have e0 : decide ((40 : Int) < (l.length : Int)) = true := decide_eq_true (by omega)
    clear HA HG HSP
    go_enter Try.func6, Try.ntmps6
    go_wp2_with fail
    rw [← hw0]
    refine (alive7_any _).mono ?_
    rintro e w1 ⟨rfl, hB⟩
    have HB := Lib.hid (HB0.out.trans (hB.mono HB0.out.size))
    clear hB hw0
    go_wp2
    go_ret
    exact ⟨rfl, HB.out⟩
  have d0 : decide ((l.length : Int) > 40) = false := decide_eq_false q0
  have e0 : decide ((40 : Int) < (l.length : Int)) = false := decide_eq_false (by omega)
  by_cases q1 : v = u
  · have d1 : (v == u) = true := by simpa using q1
    clear HA HG HSP
    go_enter Try.func6, Try.ntmps6
    go_wp2_with fail
    rw [← hw0]
    refine (alive7_any _).mono ?_
    rintro e w1 ⟨rfl, hB⟩
    have HB := Lib.hid (HB0.out.trans (hB.mono HB0.out.size))
    clear hB hw0
    go_wp2
    go_ret
    exact ⟨rfl, HB.out⟩
  have d1 : (v == u) = false := by simpa using q1
  have HL : Hid (l.length ≤ 40) := Lib.hid (by omega)
  have HNE := Lib.hid q1
  have hlen : (l.length : Int) ≤ 40 := by omega
  clear ha1 q0 q1
  go_enter Try.func6, Try.ntmps6
  go_wp2_with fail
  rw [← hw0, ← hp1]
  refine (newI_any w0).mono ?_
  rintro e w1 ⟨p, rfl, hp, hM, hB⟩
  have HM1 := Lib.hid hM
  have HB1 := Lib.hid hB
  have HP := Lib.hid hp
  have HP1 := Lib.hid HSP.out.lt
  clear hp hM hB d0 d1 e0 hw0 hp1
  go_wp2_with fail
  go_loopw [10] (fun i wr => ∃ (k : Nat) (L : List (PtV Int)), k ≤ l.length ∧ i = .int .i64 k ∧ Hid (MapAtI wr p L ∧ L.length ≤ 2 * k ∧ (∀ b, ¬ Val L b u) ∧ Below w0.heap.size w0 wr)) (fun i _ => l.length - (intOf i).toNat)
  case atStart => exact ⟨0, [], by omega, rfl, Lib.hid ⟨HM1.out, by simp, fun _ => val_nil _ _, HB1.out⟩⟩
  case round =>
    obtain ⟨k, L, hk, rfl, hI⟩ := hrel
    by_cases hlt : k < l.length
    · obtain ⟨b1, o, rfl, hbs, c0, c1, c2, c3, c4⟩ := HA.out k hlt
      have hgd := HG.out l[k] (List.getElem_mem hlt)
      generalize l[k] = y at c0 c1 c2 c3 c4 hgd
      obtain ⟨yk, yv, yw, ⟨ya, yb⟩⟩ := y
      simp only at c0 c1 c2 c3 c4
      have hB := hI.out.2.2.2
      have HBS : Hid (b1 < wr.heap.size) := Lib.hid (Nat.lt_of_lt_of_le hbs hB.size)
      have HY : Hid (yb ≤ top) := Lib.hid (by have := hgd.2.2.2.2; unfold i64B at this; unfold top; exact this.2)
      have HLL : Hid (L.length ≤ 50000) := Lib.hid (by have := hI.out.2.1; have := HL.out; omega)
      have d1 := (hB.cell (p := ⟨b1, o + k * 5 + 1, none⟩) hbs).trans c1
      have HD1 := Lib.hid ((hB.cell (p := ⟨b1, o + k * 5 + 1, none⟩) hbs).trans c1)
      have HD3 := Lib.hid ((hB.cell (p := ⟨b1, o + k * 5 + 3, none⟩) hbs).trans c3)
      have HD4 := Lib.hid ((hB.cell (p := ⟨b1, o + k * 5 + 4, none⟩) hbs).trans c4)
      clear c0 c1 c2 c3 c4 hgd hB hbs
      by_cases hyu : yv = u
      · have t1 : (yv != u) = false := by simpa using hyu
        clear hyu
        go_wp2
        go_roundw
        case measure => simp [intOf]; omega
        case rel => exact ⟨k + 1, L, by omega, by go_num, Lib.hid ⟨hI.out.1, by have := hI.out.2.1; omega, hI.out.2.2⟩⟩
      · have t1 : (yv != u) = true := by simpa using hyu
        have HYU := Lib.hid hyu
        clear hyu
        go_wp2_with fail
        clear d1
        refine wp_region_tail 11 (by kernel_rfl) (fun W => Below wr.heap.size wr W) (fun W W' => Below W.heap.size W W')
          [[(9, none)], [(0, none)], [(10, none)], [(46, some 1), (47, some 2)], [(48, some 3)], [(49, some 4)], [(0, none)], [(10, none)], [(51, some 6), (52, some 7)], [(53, some 8)], [(54, some 9)], [(45, some 0), (50, some 5), (55, some 10)]]
          [none, none, none, none, none, none, none, none, none, none, none, none, none, none, none, none, none, none, none, none, none, none, none, none, none, none, none, none, none, none, none, none, none, none, none, none, none, none, none, none, none, none, none, none, none, some 0, some 1, some 2, some 3, some 4, some 5, some 6, some 7, some 8, some 9, some 10, none, none, none, none, none, none, none, none, none, none, none, none, none, none, none, none, none, none, none, none, none, none, none, none, none, none, none, none, none, none, none, none, none, none, none, none, none, none, none, none, none, none, none, none, none, none, none, none, none, none, none, none, none, none, none, none, none, none, none, none, none, none, none, none, none, none, none, none, none, none, none, none, none, none, none, none, none, none, none, none, none, none, none, none, none, none, none, none, none, none, none, none, none, none, none, none, none, none, none, none] (by kernel_rfl) (by kernel_rfl) (by kernel_rfl) ((Below.refl _ _).drew) ?_
        simp only [List.take_succ_cons, List.take_zero, List.drop_succ_cons, List.drop_zero]
        iterate 11
          refine ex_pure (c := ?_) (fun _ _ => Below.refl _ _) ?_ ?_
          rotate_left
          · intro a' W hR hF
            simp only [FactsOf, List.nil_append, List.cons_append, List.getD_cons_zero, List.getD_cons_succ, exists_eq_left, and_true, List.getElem?_toArray, List.getElem?_cons_zero, List.getElem?_cons_succ] at hF
            have k1 := (hR.cell (p := ⟨b1, o + k * 5 + 1, none⟩) HBS.out).trans HD1.out
            have k3 := (hR.cell (p := ⟨b1, o + k * 5 + 3, none⟩) HBS.out).trans HD3.out
            have k4 := (hR.cell (p := ⟨b1, o + k * 5 + 4, none⟩) HBS.out).trans HD4.out
            refine ⟨?_, ?_⟩
            · simp [Region.wanted, yielded, hF]
            · go_simp
              with_reducible rfl
        show ∀ W, _ → _
        intro w2 hR2
        simp only [FinOf, List.nil_append, List.cons_append, List.getD_cons_zero, List.getD_cons_succ, forall_eq, forall_exists_index, and_imp, Nat.reduceAdd, Array.getD_eq_getD_getElem?, List.getElem?_toArray, List.getElem?_cons_zero, List.getElem?_cons_succ, Option.getD_some]
        have HR2 := Lib.hid hR2
        clear hR2
        go_wp2_with fail
        refine (setI_any p L (ya, yb) yv w2 (hI.out.1.below HR2.out) HY.out HLL.out).mono ?_
        rintro e w3 ⟨rfl, l', h1, h2, h3, h4⟩
        have hBw := hI.out.2.2.2.trans (HR2.out.mono hI.out.2.2.2.size)
        have HQ2 : Hid (MapAtI w3 p l' ∧ l'.length ≤ 2 * (k + 1) ∧ (∀ b, ¬ Val l' b u) ∧ Below w0.heap.size w0 w3) := Lib.hid ⟨h1, by have := hI.out.2.1; omega, fun b hb => by
          rcases (h2.val b u).1 hb with e | e
          · exact HYU.out e.2
          · exact hI.out.2.2.1 b e.1, Below.then_only hBw h4 HP.out hBw.size⟩
        clear h1 h2 h3 h4 hBw
        go_wp2
        go_roundw
        case measure => simp [intOf]; omega
        case rel => exact ⟨k + 1, l', by omega, by go_num, HQ2⟩
    · obtain rfl : k = l.length := by omega
      have HLL : Hid (L.length ≤ 80) := Lib.hid (by have := hI.out.2.1; have := HL.out; omega)
      have hLi : (L.length : Int) ≤ 80 := by have := HLL.out; omega
      clear hk hlt HA HG HM1 HB1
      go_wp2_with fail
      refine (allI_any p L wr hI.out.1 (by have := HLL.out; omega)).mono ?_
      rintro e w2 ⟨x1, rfl, hX1, hB2⟩
      have HX1 := Lib.hid hX1
      have HB2 := Lib.hid (hI.out.2.2.2.trans (hB2.mono hI.out.2.2.2.size))
      have HM2 := Lib.hid (hI.out.1.below hB2)
      clear hX1 hB2
      go_wp2_with fail
      refine (with_any p L v w2 HM2.out (by have := HLL.out; omega)).mono ?_
      rintro e w3 ⟨x2, rfl, hX2, hB3⟩
      have HX2 := Lib.hid hX2
      have HX13 := Lib.hid (HX1.out.below hB3)
      have HB3 := Lib.hid (HB2.out.trans (hB3.mono HB2.out.size))
      have HM3 := Lib.hid (HM2.out.below hB3)
      have HPL := Lib.hid (And.intro hI.out.1.lt HM2.out.lt)
      obtain ⟨A1, d1', rfl, -, -, -, -⟩ := HX1.out.form
      obtain ⟨A2, d2', rfl, -, -, -, -⟩ := hX2.form
      have k0 := (HSP.out.below' HB3.out).cell 0
      have k1 := (HSP.out.below' HB3.out).cell 1
      simp at k0 k1
      clear hX2 hB3 HX1 HB2 HM2
      go_wp2_with fail
      refine (swap_any p L (a, b) v u w3 HM3.out HT.out (by have := HLL.out; omega)).mono ?_
      rintro e w4 ⟨rfl, L1, hM4, hm4, hl4, hO4⟩
      have hnow := fun b => swap_now hI.out.1.norm hI.out.2.2.1 hm4 b
      have hN4 := withV_norm (v := u) hM4.norm
      have ecnt := cntV_of hI.out.1.norm hN4 hnow
      have ecnt2 := cntV_of hM4.norm hN4 fun b => by
        rw [hnow, hm4.val]
        constructor
        · rintro ⟨q1, q2⟩; exact ⟨.inl ⟨q2, .inl ⟨q1, rfl⟩⟩, q2⟩
        · rintro ⟨⟨_, ⟨q1, _⟩ | ⟨q1, _⟩⟩ | ⟨q1, q3⟩, q2⟩
          · exact ⟨q1, q2⟩
          · exact absurd q1 (hI.out.2.2.1 b)
          · exact absurd q2 q3
      have hyin := fun y (hy : y ∈ withV u L1) => now_in hN4 hnow hy
      have hNlim : Lim (withV u L1) := withV_lim hM4.lims
      have hNlen : (withV u L1).length ≤ 100 := Nat.le_trans (withV_len u L1) (by have := HLL.out; omega)
      have HM4 := Lib.hid hM4
      have Hm4 := Lib.hid hm4
      have HX14 := Lib.hid (RowAt.shy HX13.out hO4 HPL.out.1)
      have HX24 := Lib.hid (RowAt.shy HX2.out hO4 HPL.out.2)
      have HB4 := Lib.hid (Below.then_only HB3.out hO4 HP.out HB3.out.size)
      have HL4 : Hid (L1.length ≤ 100) := Lib.hid (by have := HLL.out; omega)
      rw [ecnt]
      have HE2 := Lib.hid ecnt2
      clear hM4 hm4 hl4 hO4 HX13 HX2 hnow k0 k1 ecnt ecnt2
      go_wp2_with fail
      refine (with_any p L1 u w4 HM4.out (by have := HL4.out; omega)).mono ?_
      rintro e w5 ⟨x3, rfl, hX3, hB5⟩
      generalize withV u L1 = NW at hX3 hN4 hyin hNlim hNlen HE2 ⊢
      have hcn : ∀ k, 0 ≤ count (NW.take k) ∧ count (NW.take k) ≤ top := fun k => by
        have hn : SpanP.Norm (NW.take k) := ⟨fun x hx => hN4.ok x (List.mem_of_mem_take hx), hN4.up.sublist (List.take_sublist k NW)⟩
        have := count_bound 0 hn (fun x hx => hNlim x (List.mem_of_mem_take hx)) hn.nonneg (by unfold top; omega)
        unfold top at *
        omega
      have HX3 := Lib.hid hX3
      have HX15 := Lib.hid (HX14.out.below hB5)
      have HX25 := Lib.hid (HX24.out.below hB5)
      have HM5 := Lib.hid (HM4.out.below hB5)
      have HB5 := Lib.hid (HB4.out.trans (hB5.mono HB4.out.size))
      obtain ⟨A3, d3', rfl, hA31, hA32, hA33⟩ := hX3.spans.read
      have H3 := Lib.hid hA33
      have HYI := Lib.hid hyin
      have HNO := Lib.hid hN4.ok
      have HNL := Lib.hid hNlim
      have HNN := Lib.hid hNlen
      have HCN := Lib.hid hcn
      have hNi : (NW.length : Int) ≤ 100 := by omega
      clear hX3 hB5 hA33 hyin hN4 hNlim hNlen hcn HX14 HX24 HB3 HB4 HM4
      go_wp2_with fail
      go_loopw [15, 16] (fun q i wr => ∃ k : Nat, k ≤ NW.length ∧ i = .int .i64 k ∧ q = .int .i64 (count (NW.take k)) ∧ Hid (Below w5.heap.size w5 wr)) (fun _ i _ => NW.length - (intOf i).toNat)
      case atStart => exact ⟨0, by omega, rfl, by simp [count], Lib.hid (Below.refl _ _)⟩
      case round =>
        obtain ⟨k, hk, rfl, rfl, hJ⟩ := hrel
        by_cases hlt : k < NW.length
        · obtain ⟨b1, o, rfl, hbs, c0, c1⟩ := H3.out k hlt
          obtain ⟨y, hy⟩ : ∃ y, y = NW[k] := ⟨_, rfl⟩
          have hyo := HNO.out NW[k] (List.getElem_mem hlt)
          have hyl := HNL.out NW[k] (List.getElem_mem hlt)
          obtain ⟨n1, n2, n3⟩ := HYI.out NW[k] (List.getElem_mem hlt)
          have hcs : count (NW.take (k + 1)) = count (NW.take k) + (NW[k].2 - NW[k].1) := by rw [List.take_succ_eq_append_getElem hlt, count_append]; simp [count]
          have hc1 := HCN.out (k + 1)
          have hc0 := (HCN.out k).1
          rw [hcs] at hc1
          have hsl : ∀ W, Below w5.heap.size w5 W → Spans W (sliced (some ⟨b1, o, none⟩) k (k + 1) d3' 2) [NW[k]] := fun W hW => Spans.one (HX3.out.spans.below hW) k hlt
          rw [← hy] at c0 c1 hyo hyl n1 n2 n3 hcs hc1 hsl
          obtain ⟨y0, y1⟩ := y
          simp only at c0 c1 hyo hyl n1 n2 hcs hc1
          obtain ⟨vs, hvs⟩ : ∃ vs, vs = sliced (some ⟨b1, o, none⟩) k (k + 1) d3' 2 := ⟨_, rfl⟩
          rw [← hvs] at hsl
          have o1 : ∀ W : World, (Instr.slice 33 (.slice (some ⟨b1, o, none⟩) NW.length d3') (some (.int .i64 k)) (some (.int .i64 ((k : Int) + 1))) none).run Try.prog W = .ok vs W := fun W => by
            rw [hvs, run_slice_lh W 33 (some ⟨b1, o, none⟩) NW.length d3' Try.underlying33 .i64 .i64 k ((k : Int) + 1) (by omega) (by omega) (by omega)]; rfl
          have q1 : ∀ (W : World) (lo hi mx : Option Value), (Instr.sliceAt 33 (.slice (some ⟨b1, o, none⟩) NW.length d3') lo hi mx).run Try.prog W = (Instr.slice 33 (.slice (some ⟨b1, o, none⟩) NW.length d3') lo hi mx).run Try.prog W := fun W lo hi mx => run_sliceAt_slice W 33 _ lo hi mx Try.underlying33
          have hlv : lenS (y0, y1) = y1 - y0 := by unfold lenS; rw [if_pos hyo]
          have hln : ∀ W, Calls Try.prog 25 #[.agg #[.int .i64 y0, .int .i64 y1]] W fun e w' => e = .returned (.int .i64 (y1 - y0)) ∧ Below W.heap.size W w' := fun W => by
            have := len_any (y0, y1) hyl W
            rw [hlv] at this
            exact this.mono fun _ _ ⟨h1, h2⟩ => ⟨h1, grown_below h2⟩
          have hcov : ∀ W, Below w5.heap.size w5 W → Calls Try.prog 24 #[.slice A2 (withV v L).length d2', vs] W fun e w' => e = .returned (.bool true) ∧ Below W.heap.size W w' := fun W hW =>
            (covers_any _ vs (withV v L) [(y0, y1)] W (SRow.spans (RowAt.below HX25.out hW)) (hsl W hW) (Nat.le_trans (withV_len v L) (by have := HLL.out; omega)) (by simp)).mono fun e w' ⟨c, he, hc, hB⟩ => by
              have : c = true := hc.2 n3
              subst this
              exact ⟨he, hB⟩
          have x1 : decide (y0 < a) = false := decide_eq_false (by omega)
          have x2 : decide (y1 > b) = false := decide_eq_false (by omega)
          have x3 : decide (b < y1) = false := decide_eq_false (by omega)
          have hkw : IntKind.i64.wrap ((k : Int) + 1) = (k : Int) + 1 := IntWalk.i64_in _ (by omega)
          have hwr : IntKind.i64.wrap (count (NW.take k) + (y1 - y0)) = count (NW.take k) + (y1 - y0) := by
            unfold top at hc1
            rw [IntWalk.i64_in _ (by omega)]
          have HCS := Lib.hid hcs
          have HLN := Lib.hid hln
          have HCV := Lib.hid hcov
          have HBS := Lib.hid (And.intro (Nat.lt_of_lt_of_le hbs hJ.out.size) (Nat.lt_of_lt_of_le (HSP.out.below' HB5.out).lt hJ.out.size))
          have HC0 := Lib.hid ((hJ.out.cell (p := ⟨b1, o + k * 2, none⟩) hbs).trans c0)
          have HC1 := Lib.hid ((hJ.out.cell (p := ⟨b1, o + k * 2 + 1, none⟩) hbs).trans c1)
          have HS1 := Lib.hid ((HSP.out.below' HB5.out).below' hJ.out)
          clear c0 c1 hbs hyo hyl n1 n2 n3 hc1 hc0 hcs hsl hvs hlv hln hcov hy
          generalize count (NW.take k) = cc at hwr HCS ⊢
          go_wp2_with fail
          refine wp_region_ex (by kernel_rfl) (fun W => Below wr.heap.size wr W) (fun W W' => Below W.heap.size W W')
            [[(12, none)], [(14, none)], [(16, none)], [(16, none)], [(79, some 3)], [(77, some 1), (78, some 2), (80, some 4)], [(76, some 0), (81, some 5)], [(82, some 6)], [(83, some 7)], [(14, none), (84, some 8)], [(16, none), (84, some 8)], [(84, some 8), (85, some 9), (86, some 10)], [(84, some 8), (87, some 11)], [(84, some 8), (88, some 12)], [(5, none), (84, some 8)], [(84, some 8), (90, some 14)], [(84, some 8), (89, some 13), (91, some 15)], [(84, some 8), (92, some 16)], [(93, some 17)], [(14, none), (94, some 18)], [(16, none), (94, some 18)], [(94, some 18), (95, some 19), (96, some 20)], [(94, some 18), (97, some 21)], [(94, some 18), (98, some 22)], [(5, none), (94, some 18)], [(94, some 18), (100, some 24)], [(94, some 18), (99, some 23), (101, some 25)], [(94, some 18), (102, some 26)]]
            [none, none, none, none, none, none, none, none, none, none, none, none, none, none, none, none, none, none, none, none, none, none, none, none, none, none, none, none, none, none, none, none, none, none, none, none, none, none, none, none, none, none, none, none, none, none, none, none, none, none, none, none, none, none, none, none, none, none, none, none, none, none, none, none, none, none, none, none, none, none, none, none, none, none, none, none, some 0, some 1, some 2, some 3, some 4, some 5, some 6, some 7, some 8, some 9, some 10, some 11, some 12, some 13, some 14, some 15, some 16, some 17, some 18, some 19, some 20, some 21, some 22, some 23, some 24, some 25, some 26, some 27, none, none, none, none, none, none, none, none, none, none, none, none, none, none, none, none, none, none, none, none, none, none, none, none, none, none, none, none, none, none, none, none, none, none, none, none, none, none, none, none, none, none, none, none, none, none, none, none, none, none, none, none] (by kernel_rfl) (by kernel_rfl) ((Below.refl _ _).drew) ?_
          iterate 6
            refine ex_pure (c := ?_) (fun _ _ => Below.refl _ _) ?_ ?_
            rotate_left
            · intro a' W hR hF
              simp only [FactsOf, List.nil_append, List.cons_append, List.getD_cons_zero, List.getD_cons_succ, exists_eq_left, and_true, List.getElem?_toArray, List.getElem?_cons_zero, List.getElem?_cons_succ] at hF
              refine ⟨?_, ?_⟩
              · simp [Region.wanted, yielded, hF]
              · go_simp
                with_reducible rfl
          refine ex_callx (.bool true) (fun a' W hR hF => ?_) ?_
          ·
            simp only [FactsOf, List.nil_append, List.cons_append, List.getD_cons_zero, List.getD_cons_succ, exists_eq_left, and_true, List.getElem?_toArray, List.getElem?_cons_zero, List.getElem?_cons_succ] at hF
            exact ⟨by simp [Region.wanted, yielded, hF], 24, #[.slice A2 (withV v L).length d2', vs], by go_simp, (HCV.out W (hJ.out.trans (hR.mono hJ.out.size))).mono fun e w' ⟨he, hB⟩ => ⟨he, hR.trans (hB.mono hR.size), hB⟩⟩
          iterate 21
            refine ex_pure (c := ?_) (fun _ _ => Below.refl _ _) ?_ ?_
            rotate_left
            · intro a' W hR hF
              simp only [FactsOf, List.nil_append, List.cons_append, List.getD_cons_zero, List.getD_cons_succ, exists_eq_left, and_true, List.getElem?_toArray, List.getElem?_cons_zero, List.getElem?_cons_succ] at hF
              have k0 := (HS1.out.below' hR).cell 0
              have k1 := (HS1.out.below' hR).cell 1
              simp at k0 k1
              have k2 := (hR.cell (p := ⟨b1, o + k * 2, none⟩) HBS.out.1).trans HC0.out
              have k3 := (hR.cell (p := ⟨b1, o + k * 2 + 1, none⟩) HBS.out.1).trans HC1.out
              refine ⟨?_, ?_⟩
              · simp [Region.wanted, yielded, hF]
              · go_simp
                with_reducible rfl
          show ∀ W, _ → _
          intro w6 hR2
          simp only [FinOf, List.nil_append, List.cons_append, List.getD_cons_zero, List.getD_cons_succ, forall_eq, forall_exists_index, and_imp, Nat.reduceAdd, Array.getD_eq_getD_getElem?, List.getElem?_toArray, List.getElem?_cons_zero, List.getElem?_cons_succ, Option.getD_some]
          have k2 := (hR2.cell (p := ⟨b1, o + k * 2, none⟩) HBS.out.1).trans HC0.out
          have k3 := (hR2.cell (p := ⟨b1, o + k * 2 + 1, none⟩) HBS.out.1).trans HC1.out
          have HR6 := Lib.hid (hJ.out.trans (hR2.mono hJ.out.size))
          clear hR2 x1 x2 x3 o1 q1
          go_wp2_with fail
          refine (HLN.out _).mono ?_
          rintro e w7 ⟨rfl, hB7⟩
          have HR7 := Lib.hid (HR6.out.trans (hB7.mono HR6.out.size))
          clear hB7 k2 k3
          go_wp2
          go_roundw
          case measure => simp [intOf]; omega
          case rel => exact ⟨k + 1, by omega, by go_num, by rw [HCS.out], HR7⟩
        · obtain rfl : k = NW.length := by omega
          clear hk hlt
          rw [List.take_length]
          have HM6 := Lib.hid (HM5.out.below hJ.out)
          have HX16 := Lib.hid (HX15.out.below hJ.out)
          have HX26 := Lib.hid (HX25.out.below hJ.out)
          have HB6 := Lib.hid (HB5.out.trans (hJ.out.mono HB5.out.size))
          have k0 := (HSP.out.below' HB6.out).cell 0
          have k1 := (HSP.out.below' HB6.out).cell 1
          simp at k0 k1
          go_wp2_with fail
          refine (swap_any p L1 (a, b) u v wr HM6.out HT.out (by have := HL4.out; omega)).mono ?_
          rintro e w7 ⟨rfl, L2, hM7, hm7, hl7, hO7⟩
          rw [HE2.out]
          have eL := swap_back hI.out.1.norm hI.out.2.2.1 Hm4.out hm7
          subst eL
          have HM7 := Lib.hid hM7
          have HX17 := Lib.hid (RowAt.shy HX16.out hO7 HPL.out.1)
          have HX27 := Lib.hid (RowAt.shy HX26.out hO7 HPL.out.2)
          have HB7 := Lib.hid (Below.then_only HB6.out hO7 HP.out HB6.out.size)
          clear hM7 hm7 hl7 hO7 k0 k1
          generalize count NW = cc
          have hcc : (cc != cc) = false := by simp
          have hll : ((L2.length : Int) != (L2.length : Int)) = false := by simp
          go_wp2_with fail
          refine (allI_any p L2 w7 HM7.out (by have := HLL.out; omega)).mono ?_
          rintro e w8 ⟨x4, rfl, hX4, hB8⟩
          have HX18 := Lib.hid (HX17.out.below hB8)
          have HX28 := Lib.hid (HX27.out.below hB8)
          have HM8 := Lib.hid (HM7.out.below hB8)
          have HB8 := Lib.hid (HB7.out.trans (hB8.mono HB7.out.size))
          obtain ⟨A4, d4', rfl, -, -, h4⟩ := hX4.parts.read
          obtain ⟨A1', d1'', e1, -, -, h1⟩ := PtsI.read (MRowI.parts HX18.out)
          simp only [Value.slice.injEq, true_and] at e1
          obtain ⟨rfl, rfl⟩ := e1
          have H4 := Lib.hid h4
          have H1 := Lib.hid h1
          clear hX4 hB8 h4 h1
          go_wp2_with fail
          go_loopw [19] (fun i wr => ∃ k : Nat, k ≤ L2.length ∧ i = .int .i64 k ∧ Hid (Below w8.heap.size w8 wr)) (fun i _ => L2.length - (intOf i).toNat)
          case atStart => exact ⟨0, by omega, rfl, Lib.hid (Below.refl _ _)⟩
          case round =>
            obtain ⟨k, hk, rfl, hE⟩ := hrel
            by_cases hlt : k < L2.length
            · obtain ⟨b1, o, rfl, hbs, c0, c1, c2⟩ := H1.out k hlt
              obtain ⟨b2, o2, rfl, hbs2, c3, c4, c5⟩ := H4.out k hlt
              generalize L2[k] = y at c0 c1 c2 c3 c4 c5
              obtain ⟨⟨y0, y1⟩, yv⟩ := y
              simp only at c0 c1 c2 c3 c4 c5
              have HBS := Lib.hid (And.intro (Nat.lt_of_lt_of_le hbs hE.out.size) (Nat.lt_of_lt_of_le hbs2 hE.out.size))
              have HC0 := Lib.hid ((hE.out.cell (p := ⟨b1, o + k * 3, none⟩) hbs).trans c0)
              have HC1 := Lib.hid ((hE.out.cell (p := ⟨b1, o + k * 3 + 1, none⟩) hbs).trans c1)
              have HC2 := Lib.hid ((hE.out.cell (p := ⟨b1, o + k * 3 + 2, none⟩) hbs).trans c2)
              have HC3 := Lib.hid ((hE.out.cell (p := ⟨b2, o2 + k * 3, none⟩) hbs2).trans c3)
              have HC4 := Lib.hid ((hE.out.cell (p := ⟨b2, o2 + k * 3 + 1, none⟩) hbs2).trans c4)
              have HC5 := Lib.hid ((hE.out.cell (p := ⟨b2, o2 + k * 3 + 2, none⟩) hbs2).trans c5)
              clear hbs hbs2 c0 c1 c2 c3 c4 c5
              go_wp2_with fail
              refine wp_region_ex (by kernel_rfl) (fun W => Below wr.heap.size wr W) (fun W W' => Below W.heap.size W W')
                [[(18, none)], [(19, none)], [(139, some 0), (140, some 1)], [(141, some 2)], [(11, none)], [(19, none)], [(143, some 4), (144, some 5)], [(145, some 6)], [(142, some 3), (146, some 7)]]
                [none, none, none, none, none, none, none, none, none, none, none, none, none, none, none, none, none, none, none, none, none, none, none, none, none, none, none, none, none, none, none, none, none, none, none, none, none, none, none, none, none, none, none, none, none, none, none, none, none, none, none, none, none, none, none, none, none, none, none, none, none, none, none, none, none, none, none, none, none, none, none, none, none, none, none, none, none, none, none, none, none, none, none, none, none, none, none, none, none, none, none, none, none, none, none, none, none, none, none, none, none, none, none, none, none, none, none, none, none, none, none, none, none, none, none, none, none, none, none, none, none, none, none, none, none, none, none, none, none, none, none, none, none, none, none, none, none, none, none, some 0, some 1, some 2, some 3, some 4, some 5, some 6, some 7, some 8, none, none, none, none, none, none, none, none] (by kernel_rfl) (by kernel_rfl) ((Below.refl _ _).drew) ?_
              iterate 9
                refine ex_pure (c := ?_) (fun _ _ => Below.refl _ _) ?_ ?_
                rotate_left
                · intro a' W hR hF
                  simp only [FactsOf, List.nil_append, List.cons_append, List.getD_cons_zero, List.getD_cons_succ, exists_eq_left, and_true, List.getElem?_toArray, List.getElem?_cons_zero, List.getElem?_cons_succ] at hF
                  have k0 := (hR.cell (p := ⟨b1, o + k * 3, none⟩) HBS.out.1).trans HC0.out
                  have k1 := (hR.cell (p := ⟨b1, o + k * 3 + 1, none⟩) HBS.out.1).trans HC1.out
                  have k2 := (hR.cell (p := ⟨b1, o + k * 3 + 2, none⟩) HBS.out.1).trans HC2.out
                  have k3 := (hR.cell (p := ⟨b2, o2 + k * 3, none⟩) HBS.out.2).trans HC3.out
                  have k4 := (hR.cell (p := ⟨b2, o2 + k * 3 + 1, none⟩) HBS.out.2).trans HC4.out
                  have k5 := (hR.cell (p := ⟨b2, o2 + k * 3 + 2, none⟩) HBS.out.2).trans HC5.out
                  refine ⟨?_, ?_⟩
                  · simp [Region.wanted, yielded, hF]
                  · go_simp
                    with_reducible rfl
              show ∀ W, _ → _
              intro w9 hR2
              simp only [FinOf, List.nil_append, List.cons_append, List.getD_cons_zero, List.getD_cons_succ, forall_eq, forall_exists_index, and_imp, Nat.reduceAdd, Array.getD_eq_getD_getElem?, List.getElem?_toArray, List.getElem?_cons_zero, List.getElem?_cons_succ, Option.getD_some]
              have HR9 := Lib.hid hR2
              clear hR2
              go_wp2
              go_roundw
              case measure => simp [intOf]; omega
              case rel => exact ⟨k + 1, by omega, by go_num, Lib.hid (hE.out.trans (HR9.out.mono hE.out.size))⟩
            · obtain rfl : k = L2.length := by omega
              clear hk hlt
              go_wp2_with fail
              refine (alive7_any wr).mono ?_
              rintro e w9 ⟨rfl, hB9⟩
              have HE9 := Lib.hid (hE.out.trans (hB9.mono hE.out.size))
              clear hB9
              go_wp2_with fail
              refine (with_any p L2 v w9 (HM8.out.below HE9.out) (by have := HLL.out; omega)).mono ?_
              rintro e w10 ⟨x5, rfl, hX5, hB10⟩
              have HX5 := Lib.hid hX5.spans
              have HE10 := Lib.hid (HE9.out.trans (hB10.mono HE9.out.size))
              clear hB10 hX5
              go_wp2_with fail
              refine (sameS_yes _ _ (withV v L2) w10 HX5.out (SRow.spans (RowAt.below HX28.out HE10.out))).mono ?_
              rintro e w11 ⟨rfl, nn, rfl⟩
              have HF := Lib.hid (HB0.out.trans ((HB8.out.trans (HE10.out.mono HB8.out.size)).mono HB0.out.size))
              go_wp2
              go_ret
              exact ⟨rfl, below_drewN HF.out nn⟩

set_option maxRecDepth 100000 in
theorem imapSwaps_lifted (os : Os) (started : os.Started) (H : Type) (enc : TypeId × Value → H) :
    ReturnsInHanded {} Try.checked os 6 .any (Rows.imapSwapsSpec.pre6 enc Try.prog Try.f6 Rows.imapSwapsRow.domain false) (Rows.imapSwapsSpec.post enc Try.prog Try.f6 false true false false) := by
  refine returnsInHanded_of_change (C := Try.checked) own started (by kernel_rfl) Try.func6
    (ChangeSpec.witness6 (enc := enc) (C := Try.checked) false ⟨#[], #[.slice none 0 0, .agg #[.int .i64 0, .int .i64 0], .int .i64 0, .int .i64 0], []⟩ 8 (by kernel_rfl) (by kernel_rfl) (by kernel_rfl) (by kernel_rfl)) ?_
  intro W base args ds gs before hval0 hW _ _
  have hval : ∀ (j : Nat) t v, Try.f6.params[j]? = some t → args[j]? = some v → Value.okWide Try.prog W .any base t v := hval0
  have hW' := hW
  obtain ⟨p, q, hA0, hV, rfl, hfz, hnd⟩ := hW
  have hA : DataW.TrodAll enc Try.prog W 0 (fun _ => true) true Try.f6.params.toList args.toList ds p := hA0
  rw [Try.params6] at hA hval
  obtain ⟨v0, vs0, d0, ds0, p0, q0, hargs, rfl, rfl, h0, r0⟩ := trodAll_cons hA
  obtain ⟨v1, vs1, d1, ds1, p1, q1, rfl, rfl, rfl, h1, r1⟩ := trodAll_cons r0
  obtain ⟨v2, vs2, d2, ds2, p2, q2, rfl, rfl, rfl, h2, r2⟩ := trodAll_cons r1
  obtain ⟨v3, vs3, d3, ds3, p3, q3, rfl, rfl, rfl, h3, r3⟩ := trodAll_cons r2
  obtain ⟨rfl, rfl, rfl⟩ := trodAll_nil r3
  obtain rfl : args = #[v0, v1, v2, v3] := by cases args; simp_all
  obtain ⟨rfl, rfl⟩ := trodVars_none hV
  have k0 := h0
  have lt0 : ∀ x ∈ p0, x.block < W.heap.size := by obtain ⟨m, hm⟩ := k0; exact DataW.trod_lt m _ _ _ hm
  have k1 := h1
  have lt1 : ∀ x ∈ p1, x.block < W.heap.size := by obtain ⟨m, hm⟩ := k1; exact DataW.trod_lt m _ _ _ hm
  have k2 := h2
  have lt2 : ∀ x ∈ p2, x.block < W.heap.size := by obtain ⟨m, hm⟩ := k2; exact DataW.trod_lt m _ _ _ hm
  have k3 := h3
  have lt3 : ∀ x ∈ p3, x.block < W.heap.size := by obtain ⟨m, hm⟩ := k3; exact DataW.trod_lt m _ _ _ hm
  obtain ⟨a0, w0⟩ := ops_open (hval 0 37 v0 rfl rfl) k0
  obtain ⟨a1, w1⟩ := span_open (hval 1 23 v1 rfl rfl) k1
  obtain ⟨a2, rfl, rfl, rfl, w2⟩ := open_int Try.underlying3 (hval 2 3 v2 rfl rfl) h2
  obtain ⟨a3, rfl, rfl, rfl, w3⟩ := open_int Try.underlying3 (hval 3 3 v3 rfl rfl) h3
  clear hA0 hval0
  refine (imapSwaps_walk v0 a0 v1 a1 a2 w2 a3 w3 W w0 w1).mono fun e W' ⟨he, bel⟩ => ?_
  subst he
  exact ⟨_, rfl, _, _, _, [], _, [], hW', trodAll_mk1 (shut_bool Try.underlying4 _), (trodAll_cons_mk (Below.trod laidOut (by kernel_rfl) (of_decide_eq_true (by kernel_rfl)) k0 bel lt0) (trodAll_cons_mk (Below.trod laidOut (by kernel_rfl) (of_decide_eq_true (by kernel_rfl)) k1 bel lt1) (trodAll_cons_mk (Below.trod laidOut (by kernel_rfl) (of_decide_eq_true (by kernel_rfl)) k2 bel lt2) (trodAll_cons_mk (Below.trod laidOut (by kernel_rfl) (of_decide_eq_true (by kernel_rfl)) k3 bel lt3) trodAll_mk0)))), rfl, bel.frame _, fun h => by cases h⟩

theorem imapSwaps_said : Rows.ImapSwapsSaid :=
  OpenClaim.holds_of_wide 6 Try.f6 rfl rfl rfl rfl rfl rfl rfl ⟨rfl, rfl, rfl, rfl, rfl⟩ rfl rfl rfl rfl rfl (by kernel_rfl) Try.func6 (by kernel_rfl)
    (of_decide_eq_true (by kernel_rfl)) (by unfold Func.isWrapper; first | (rw [if_pos (by decide +kernel)]; kernel_rfl) | (rw [if_neg (by decide +kernel)]; exact ⟨rfl, rfl⟩))
    (fun os started H enc _ => imapSwaps_lifted os started H enc)
#print axioms imapSwaps_said
end Go.Proofs.Ytalmcflcpljnmaa
