/- ImapParts: the parts of a range are those of the whole, cut at its ends; the parts of two ranges side by side are those of both together; whatever was set, whatever the ranges are. -/
import Derived.Test.YtalmcflcpljnmaaImapH
import Derived.Test.YtalmcflcpljnmaaImapO
import Derived.OpenShut
import Derived.ChangeOld
namespace Go.Proofs.Ytalmcflcpljnmaa
open Go Go.RowKit Go.ChangeShapes Go.WideShapes SpanP PartP ImapP
set_option maxRecDepth 100000
set_option maxHeartbeats 4000000
set_option linter.unusedSimpArgs false

theorem partsV_in {s : S} {l : List (PtV Int)} {i j : Nat} {y : PtV Int} (h : y ∈ partsV s l i j) : s.1 ≤ y.1.1 ∧ y.1.2 ≤ s.2 := by
  unfold partsV at h
  split at h
  · obtain ⟨_, _, _, _, _, _, h1, h2⟩ := cutV_in h
    exact ⟨h1, h2⟩
  · cases h
theorem partsV_len (s : S) (l : List (PtV Int)) (i j : Nat) : (partsV s l i j).length ≤ l.length := by
  unfold partsV
  split
  · refine Nat.le_trans (cutV_len _ _) ?_
    unfold mid
    rw [List.length_drop, List.length_take]
    omega
  · simp
theorem row_both {P Q : List (PtV Int)} (hP : Row P) (hQ : Row Q) (m : Int) (h1 : ∀ x ∈ P, x.1.2 ≤ m) (h2 : ∀ x ∈ Q, m ≤ x.1.1) : Row (P ++ Q) :=
  ⟨fun x hx => by rcases List.mem_append.1 hx with h | h; exact hP.ok x h; exact hQ.ok x h, List.pairwise_append.2 ⟨hP.up, hQ.up, fun x hx y hy => Int.le_trans (h1 x hx) (h2 y hy)⟩⟩
theorem set_next {d N N' : List (PtV Int)} {k : Nat} (hd : Row d) (hk : k < d.length) (hN : ∀ b u, Val N b u ↔ Val (d.take k) b u) (hM : MapOf N' fun b u => (Has d[k].1 b ∧ d[k].2 = u) ∨ (Val N b u ∧ ¬ Has d[k].1 b)) : ∀ b u, Val N' b u ↔ Val (d.take (k + 1)) b u := fun b u => by
  rw [hM.val, hN, List.take_succ_eq_append_getElem hk, val_append, val_one, or_comm]
  refine or_congr ⟨fun h => h.1, fun h => ⟨h, ?_⟩⟩ Iff.rfl
  rintro ⟨_, h1, _⟩
  obtain ⟨x, hx, ⟨_, _, h2⟩, _⟩ := h
  obtain ⟨t, ht, rfl⟩ := List.getElem_of_mem hx
  rw [List.length_take] at ht
  rw [List.getElem_take] at h2
  have := List.pairwise_iff_getElem.1 hd.up t k (by omega) hk (by omega)
  omega
theorem RowAt.shy {w w' : World} {base : Nat} {e : TypeId} {size : Nat} {v : Value} {n : Nat} {xs : List Value} {q : Nat} (h : RowAt w base e size v n xs) (ho : Only q w w') (hq : q < base) : RowAt w' base e size v n xs :=
  h.keep fun k hk => ho.block k (h.lt k hk).2 (by have := (h.lt k hk).1; omega)
theorem imapParts_walk (v0 : Value) (l : List Op7) (f : Int) (_wf : (Lit.int .i64 f).wf = true) (m : Int) (_wm : (Lit.int .i64 m).wf = true) (t : Int) (_wt : (Lit.int .i64 t).wf = true) (w : World) (h0 : (∀ x ∈ l, goodO x) ∧ Opl w v0 l) :
    Calls Try.prog 5 #[v0, .int .i64 f, .int .i64 m, .int .i64 t] w fun e w' => e = .returned (.bool true) ∧ Below w.heap.size w w' := by
  clear _wf _wm _wt
  obtain ⟨hgood, hs⟩ := h0
  obtain ⟨A, ca, rfl, ha1, ha2, ha3⟩ := hs.read
  have HA := Lib.hid ha3
  have HG := Lib.hid hgood
  clear ha3 hs hgood
  by_cases q0 : (l.length : Int) > 40
  · have d0 : decide ((l.length : Int) > 40) = true := decide_eq_true q0
    have e0 : decide ((40 : Int) < (l.length : Int)) = true := decide_eq_true (by omega)
    clear HA HG
    go_enter Try.func5, Try.ntmps5
    go_wp2_with fail
    refine (alive7_any _).mono ?_
    rintro e w1 ⟨rfl, hB⟩
    have HB := Lib.hid hB
    clear hB
    go_wp2
    go_ret
    exact ⟨rfl, HB.out⟩
  have d0 : decide ((l.length : Int) > 40) = false := decide_eq_false q0
  have e0 : decide ((40 : Int) < (l.length : Int)) = false := decide_eq_false (by omega)
  by_cases q1 : f < 0
  · have d1 : decide (f < 0) = true := decide_eq_true q1
    clear HA HG
    go_enter Try.func5, Try.ntmps5
    go_wp2_with fail
    refine (alive7_any _).mono ?_
    rintro e w1 ⟨rfl, hB⟩
    have HB := Lib.hid hB
    clear hB
    go_wp2
    go_ret
    exact ⟨rfl, HB.out⟩
  have d1 : decide (f < 0) = false := decide_eq_false q1
  by_cases q2 : f ≥ m
  · have d2 : decide (f ≥ m) = true := decide_eq_true q2
    have e2 : decide (m ≤ f) = true := decide_eq_true (by omega)
    clear HA HG
    go_enter Try.func5, Try.ntmps5
    go_wp2_with fail
    refine (alive7_any _).mono ?_
    rintro e w1 ⟨rfl, hB⟩
    have HB := Lib.hid hB
    clear hB
    go_wp2
    go_ret
    exact ⟨rfl, HB.out⟩
  have d2 : decide (f ≥ m) = false := decide_eq_false q2
  have e2 : decide (m ≤ f) = false := decide_eq_false (by omega)
  by_cases q3 : m ≥ t
  · have d3 : decide (m ≥ t) = true := decide_eq_true q3
    have e3 : decide (t ≤ m) = true := decide_eq_true (by omega)
    clear HA HG
    go_enter Try.func5, Try.ntmps5
    go_wp2_with fail
    refine (alive7_any _).mono ?_
    rintro e w1 ⟨rfl, hB⟩
    have HB := Lib.hid hB
    clear hB
    go_wp2
    go_ret
    exact ⟨rfl, HB.out⟩
  have d3 : decide (m ≥ t) = false := decide_eq_false q3
  have e3 : decide (t ≤ m) = false := decide_eq_false (by omega)
  by_cases q4 : t > 1000
  · have d4 : decide (t > 1000) = true := decide_eq_true q4
    have e4 : decide ((1000 : Int) < t) = true := decide_eq_true (by omega)
    clear HA HG
    go_enter Try.func5, Try.ntmps5
    go_wp2_with fail
    refine (alive7_any _).mono ?_
    rintro e w1 ⟨rfl, hB⟩
    have HB := Lib.hid hB
    clear hB
    go_wp2
    go_ret
    exact ⟨rfl, HB.out⟩
  have d4 : decide (t > 1000) = false := decide_eq_false q4
  have e4 : decide ((1000 : Int) < t) = false := decide_eq_false (by omega)
  have HQ : Hid (l.length ≤ 40 ∧ 0 ≤ f ∧ f < m ∧ m < t ∧ t ≤ 1000) := Lib.hid ⟨by omega, by omega, by omega, by omega, by omega⟩
  have hlen : (l.length : Int) ≤ 40 := by omega
  clear ha1 q0 q1 q2 q3 q4
  go_enter Try.func5, Try.ntmps5
  go_wp2_with fail
  refine (newI_any w).mono ?_
  rintro e w1 ⟨p, rfl, hp, hM, hB⟩
  have HM1 := Lib.hid hM
  have HB1 := Lib.hid hB
  have HP := Lib.hid hp
  clear hp hM hB d0 d1 d2 d3 d4 e0 e2 e3 e4
  go_wp2_with fail
  go_loopw [10] (fun i wr => ∃ (k : Nat) (L : List (PtV Int)), k ≤ l.length ∧ i = .int .i64 k ∧ Hid (MapAtI wr p L ∧ L.length ≤ 2 * k ∧ Below w.heap.size w wr)) (fun i _ => l.length - (intOf i).toNat)
  case atStart => exact ⟨0, [], by omega, rfl, Lib.hid ⟨HM1.out, by simp, HB1.out⟩⟩
  case round =>
    obtain ⟨k, L, hk, rfl, hI⟩ := hrel
    by_cases hlt : k < l.length
    · obtain ⟨b1, o, rfl, hbs, c0, c1, c2, c3, c4⟩ := HA.out k hlt
      have hgd := HG.out l[k] (List.getElem_mem hlt)
      generalize l[k] = y at c0 c1 c2 c3 c4 hgd
      obtain ⟨yk, yv, yw, ⟨ya, yb⟩⟩ := y
      simp only at c0 c1 c2 c3 c4
      have hB := hI.out.2.2
      have HBS : Hid (b1 < wr.heap.size) := Lib.hid (Nat.lt_of_lt_of_le hbs hB.size)
      have HY : Hid (yb ≤ top) := Lib.hid (by have := hgd.2.2.2.2; unfold i64B at this; unfold top; exact this.2)
      have HLL : Hid (L.length ≤ 50000) := Lib.hid (by have := hI.out.2.1; have := HQ.out.1; omega)
      have HD1 := Lib.hid ((hB.cell (p := ⟨b1, o + k * 5 + 1, none⟩) hbs).trans c1)
      have HD3 := Lib.hid ((hB.cell (p := ⟨b1, o + k * 5 + 3, none⟩) hbs).trans c3)
      have HD4 := Lib.hid ((hB.cell (p := ⟨b1, o + k * 5 + 4, none⟩) hbs).trans c4)
      clear c0 c1 c2 c3 c4 hgd hB hbs
      go_wp2_with fail
      refine wp_region_tail 11 (by kernel_rfl) (fun W => Below wr.heap.size wr W) (fun W W' => Below W.heap.size W W')
        [[(9, none)], [(0, none)], [(10, none)], [(51, some 1), (52, some 2)], [(53, some 3)], [(54, some 4)], [(0, none)], [(10, none)], [(56, some 6), (57, some 7)], [(58, some 8)], [(59, some 9)], [(50, some 0), (55, some 5), (60, some 10)]]
        [none, none, none, none, none, none, none, none, none, none, none, none, none, none, none, none, none, none, none, none, none, none, none, none, none, none, none, none, none, none, none, none, none, none, none, none, none, none, none, none, none, none, none, none, none, none, none, none, none, none, some 0, some 1, some 2, some 3, some 4, some 5, some 6, some 7, some 8, some 9, some 10, none, none, none, none, none, none, none, none, none, none, none, none, none, none, none, none, none, none, none, none, none, none, none, none, none, none, none, none, none, none, none, none, none, none, none, none, none, none, none, none, none, none, none, none, none, none, none, none, none, none, none, none, none, none, none, none, none, none, none, none, none, none, none, none, none, none, none, none, none, none, none, none, none, none, none, none, none, none, none, none, none, none] (by kernel_rfl) (by kernel_rfl) (by kernel_rfl) ((Below.refl _ _).drew) ?_
      simp only [List.take_succ_cons, List.take_zero, List.drop_succ_cons, List.drop_zero]
      iterate 11
        refine ex_pure (c := ?_) (fun _ _ => Below.refl _ _) ?_ ?_
        rotate_left
        · intro a' W hR hF
          simp only [FactsOf, List.nil_append, List.cons_append, List.getD_cons_zero, List.getD_cons_succ, exists_eq_left, and_true, List.getElem?_toArray, List.getElem?_cons_zero, List.getElem?_cons_succ] at hF
          have k1 := (hR.cell (p := ⟨b1, o + k * 5 + 1, none⟩) HBS.out).trans HD1.out
          have k3 := (hR.cell (p := ⟨b1, o + k * 5 + 3, none⟩) HBS.out).trans HD3.out
          have k4 := (hR.cell (p := ⟨b1, o + k * 5 + 4, none⟩) HBS.out).trans HD4.out
          refine ⟨?_, ?_⟩
          · simp [Region.wanted, yielded, hF]
          · go_simp
            with_reducible rfl
      show ∀ W, _ → _
      intro w2 hR2
      simp only [FinOf, List.nil_append, List.cons_append, List.getD_cons_zero, List.getD_cons_succ, forall_eq, forall_exists_index, and_imp, Nat.reduceAdd, Array.getD_eq_getD_getElem?, List.getElem?_toArray, List.getElem?_cons_zero, List.getElem?_cons_succ, Option.getD_some]
      have HR2 := Lib.hid hR2
      clear hR2
      go_wp2_with fail
      refine (setI_any p L (ya, yb) yv w2 (hI.out.1.below HR2.out) HY.out HLL.out).mono ?_
      rintro e w3 ⟨rfl, l', h1, -, h3, h4⟩
      have hBw := hI.out.2.2.trans (HR2.out.mono hI.out.2.2.size)
      have HQ2 : Hid (MapAtI w3 p l' ∧ l'.length ≤ 2 * (k + 1) ∧ Below w.heap.size w w3) := Lib.hid ⟨h1, by have := hI.out.2.1; omega, Below.then_only hBw h4 HP.out hBw.size⟩
      clear h1 h3 h4 hBw
      go_wp2
      go_roundw
      case measure => simp [intOf]; omega
      case rel => exact ⟨k + 1, l', by omega, by go_num, HQ2⟩
    · obtain rfl : k = l.length := by omega
      have HLL : Hid (L.length ≤ 80) := Lib.hid (by have := hI.out.2.1; have := HQ.out.1; omega)
      clear hk hlt HA HG HM1 HB1
      have HN := Lib.hid hI.out.1.norm
      obtain ⟨P1, hP1⟩ : ∃ P, P = partsV (f, m) L (nearII (f, m) L) (nearJI (f, m) L) := ⟨_, rfl⟩
      obtain ⟨P2, hP2⟩ : ∃ P, P = partsV (m, t) L (nearII (m, t) L) (nearJI (m, t) L) := ⟨_, rfl⟩
      obtain ⟨P3, hP3⟩ : ∃ P, P = partsV (f, t) L (nearII (f, t) L) (nearJI (f, t) L) := ⟨_, rfl⟩
      have g1 : MapOf P1 fun b v => Val L b v ∧ Has (f, m) b := hP1 ▸ partsV_map (fun _ => nearI_ok HN.out (by have := HQ.out; simp only; omega)) HN.out
      have g2 : MapOf P2 fun b v => Val L b v ∧ Has (m, t) b := hP2 ▸ partsV_map (fun _ => nearI_ok HN.out (by have := HQ.out; simp only; omega)) HN.out
      have g3 : MapOf P3 fun b v => Val L b v ∧ Has (f, t) b := hP3 ▸ partsV_map (fun _ => nearI_ok HN.out (by have := HQ.out; simp only; omega)) HN.out
      have hrow : Row (P1 ++ P2) := row_both g1.norm.row g2.norm.row m (fun x hx => (partsV_in (hP1 ▸ hx)).2) (fun x hx => (partsV_in (hP2 ▸ hx)).1)
      have hlm : Lims (P1 ++ P2) := fun x hx => by
        have := HQ.out
        unfold top
        rcases List.mem_append.1 hx with h | h
        · have := (partsV_in (hP1 ▸ h)).2; simp only at this; omega
        · have := (partsV_in (hP2 ▸ h)).2; simp only at this; omega
      have hl1 : P1.length ≤ 80 := hP1 ▸ Nat.le_trans (partsV_len _ _ _ _) HLL.out
      have hl2 : P2.length ≤ 80 := hP2 ▸ Nat.le_trans (partsV_len _ _ _ _) HLL.out
      have hl3 : P3.length ≤ 80 := hP3 ▸ Nat.le_trans (partsV_len _ _ _ _) HLL.out
      have hin : ∀ x ∈ P3, f ≤ x.1.1 ∧ x.1.2 ≤ t := fun x hx => partsV_in (hP3 ▸ hx)
      have hfin : ∀ N : List (PtV Int), PNorm N → (∀ b u, Val N b u ↔ Val (P1 ++ P2) b u) → N = P3 := fun N hN hv => pnorm_ext hN g3.norm fun b u => by
        rw [hv, val_append, g1.val, g2.val, g3.val]
        have := HQ.out
        unfold Has Ok
        simp only
        constructor
        · rintro (⟨h1, h2⟩ | ⟨h1, h2⟩)
          · exact ⟨h1, by omega⟩
          · exact ⟨h1, by omega⟩
        · rintro ⟨h1, h2⟩
          by_cases e : b < m
          · exact .inl ⟨h1, by omega⟩
          · exact .inr ⟨h1, by omega⟩
      have HP1 := Lib.hid hP1
      have HP2 := Lib.hid hP2
      have HP3 := Lib.hid hP3
      have HF := Lib.hid hfin
      have HRW := Lib.hid hrow
      have HLM := Lib.hid hlm
      have HLN := Lib.hid (And.intro hl1 (And.intro hl2 hl3))
      have HIN := Lib.hid hin
      clear g1 g2 g3 hP1 hP2 hP3 hfin hrow hlm hl1 hl2 hl3 hin
      go_wp2_with fail
      refine (partsI_any p L (f, m) wr hI.out.1 (by have := HLL.out; omega)).mono ?_
      rintro e w2 ⟨x1, rfl, hX1, hB2⟩
      rw [← HP1.out] at hX1
      have HB2 := Lib.hid hB2
      have HX1 := Lib.hid hX1.parts
      clear hX1 hB2
      go_wp2_with fail
      refine (partsI_any p L (m, t) w2 (hI.out.1.below HB2.out) (by have := HLL.out; omega)).mono ?_
      rintro e w3 ⟨x2, rfl, hX2, hB3⟩
      rw [← HP2.out] at hX2
      have HB3 := Lib.hid (HB2.out.trans (hB3.mono HB2.out.size))
      have HX13 := Lib.hid (HX1.out.below hB3)
      have HX2 := Lib.hid hX2.parts
      clear hX2 hB3 HX1 HB2
      go_wp2_with fail
      refine (partsI_any p L (f, t) w3 (hI.out.1.below HB3.out) (by have := HLL.out; omega)).mono ?_
      rintro e w4 ⟨x3, rfl, hX3, hB4⟩
      rw [← HP3.out] at hX3
      have HB4 := Lib.hid (HB3.out.trans (hB4.mono HB3.out.size))
      have HX14 := Lib.hid (HX13.out.below hB4)
      have HX24 := Lib.hid (HX2.out.below hB4)
      have HX3 := Lib.hid hX3.parts
      clear hX3 hB4 HX13 HX2 HB3
      go_wp2_with fail
      refine (newI_any w4).mono ?_
      rintro e w5 ⟨q, rfl, hq, hM5, hB5⟩
      have HM5 := Lib.hid hM5
      have HQ5 := Lib.hid hq
      obtain ⟨y1, w6, hr6, hY6, hB6, hM6, hO6⟩ := pushMI_all (MRowI.nil w5 w5.heap.size) (HX14.out.below hB5) (Nat.le_refl _) (by simp) (by have := HLN.out; omega) 30
      obtain ⟨y2, w7, hr7, hY7, hB7, hM7, hO7⟩ := pushMI_all hY6 ((HX24.out.below hB5).below hB6) hB6.size (by have := HLN.out; simp; omega) (by have := HLN.out; omega) 30
      rw [List.nil_append] at hY7
      have HY7 := Lib.hid hY7
      have HB57 := Lib.hid (hB6.trans hB7)
      have HM7 := Lib.hid (hM5.below (hB6.trans hB7))
      have HB7 := Lib.hid (hB5.trans ((hB6.trans hB7).mono hB5.size))
      clear hM5 hB5 hY6 hB6 hM6 hO6 hY7 hB7 hM7 hO7 hq
      go_wp2_with (first | (at_builtin; refine Lib.wpList_append_run _ rfl _ _ _ _ rfl _ _ rfl rfl _ _ hr6 ?_) | (at_builtin; refine Lib.wpList_append_run _ rfl _ _ _ _ rfl _ _ rfl rfl _ _ hr7 ?_))
      obtain ⟨D, hD⟩ : ∃ D, D = P1 ++ P2 := ⟨_, rfl⟩
      have hDl : D.length ≤ 160 := by rw [hD, List.length_append]; have := HLN.out; omega
      rw [← hD] at HF HRW HLM HY7
      have HDL := Lib.hid hDl
      obtain ⟨A7, c7, rfl, -, -, -, -⟩ := HY7.out.form
      have hDi : (D.length : Int) ≤ 160 := by omega
      clear hD hDl hr6 hr7 HX14 HX24 HP1 HP2 HP3
      have HQL := Lib.hid HM5.out.lt
      clear HM5
      go_loopw [16] (fun i wr => ∃ (k : Nat) (N : List (PtV Int)), k ≤ D.length ∧ i = .int .i64 k ∧ Hid (MapAtI wr q N ∧ N.length ≤ 2 * k ∧ (∀ b u, Val N b u ↔ Val (D.take k) b u) ∧ Below w4.heap.size w4 wr ∧ MRowI wr w5.heap.size (.slice A7 D.length c7) D)) (fun i _ => D.length - (intOf i).toNat)
      case atStart => exact ⟨0, [], by omega, rfl, Lib.hid ⟨HM7.out, by simp, fun b u => by simp, HB7.out, HY7.out⟩⟩
      case round =>
        obtain ⟨k, N, hk, rfl, hJ⟩ := hrel
        by_cases hlt : k < D.length
        · obtain ⟨A3, cap3, e3, -, -, h3⟩ := hJ.out.2.2.2.2.parts.read
          simp only [Value.slice.injEq, true_and] at e3
          obtain ⟨rfl, rfl⟩ := e3
          obtain ⟨b1, o, rfl, hbs, c0, c1, c2⟩ := h3 k hlt
          obtain ⟨y, hy⟩ : ∃ y, y = D[k] := ⟨_, rfl⟩
          have hyl := HLM.out D[k] (List.getElem_mem hlt)
          rw [← hy] at c0 c1 c2 hyl
          have hnx : ∀ N', MapOf N' (fun b u => (Has y.1 b ∧ y.2 = u) ∨ (Val N b u ∧ ¬ Has y.1 b)) → ∀ b u, Val N' b u ↔ Val (D.take (k + 1)) b u := fun N' hN' => set_next HRW.out hlt hJ.out.2.2.1 (hy ▸ hN')
          obtain ⟨⟨y0, y1⟩, yv⟩ := y
          simp only at c0 c1 c2 hyl hnx
          have HBS := Lib.hid hbs
          have HC0 := Lib.hid c0
          have HC1 := Lib.hid c1
          have HC2 := Lib.hid c2
          have HNX := Lib.hid hnx
          have HYL := Lib.hid hyl
          have HNL : Hid (N.length ≤ 50000) := Lib.hid (by have := hJ.out.2.1; have := HDL.out; omega)
          clear h3 hbs c0 c1 c2 hnx hyl hy
          go_wp2_with fail
          refine wp_region_tail 11 (by kernel_rfl) (fun W => Below wr.heap.size wr W) (fun W W' => Below W.heap.size W W')
            [[(14, none)], [(15, none)], [(16, none)], [(89, some 1), (90, some 2)], [(91, some 3)], [(92, some 4)], [(15, none)], [(16, none)], [(94, some 6), (95, some 7)], [(96, some 8)], [(97, some 9)], [(88, some 0), (93, some 5), (98, some 10)]]
            [none, none, none, none, none, none, none, none, none, none, none, none, none, none, none, none, none, none, none, none, none, none, none, none, none, none, none, none, none, none, none, none, none, none, none, none, none, none, none, none, none, none, none, none, none, none, none, none, none, none, none, none, none, none, none, none, none, none, none, none, none, none, none, none, none, none, none, none, none, none, none, none, none, none, none, none, none, none, none, none, none, none, none, none, none, none, none, none, some 0, some 1, some 2, some 3, some 4, some 5, some 6, some 7, some 8, some 9, some 10, none, none, none, none, none, none, none, none, none, none, none, none, none, none, none, none, none, none, none, none, none, none, none, none, none, none, none, none, none, none, none, none, none, none, none, none, none, none, none, none, none, none, none, none] (by kernel_rfl) (by kernel_rfl) (by kernel_rfl) ((Below.refl _ _).drew) ?_
          simp only [List.take_succ_cons, List.take_zero, List.drop_succ_cons, List.drop_zero]
          iterate 11
            refine ex_pure (c := ?_) (fun _ _ => Below.refl _ _) ?_ ?_
            rotate_left
            · intro a' W hR hF
              simp only [FactsOf, List.nil_append, List.cons_append, List.getD_cons_zero, List.getD_cons_succ, exists_eq_left, and_true, List.getElem?_toArray, List.getElem?_cons_zero, List.getElem?_cons_succ] at hF
              have k1 := (hR.cell (p := ⟨b1, o + k * 3, none⟩) HBS.out).trans HC0.out
              have k3 := (hR.cell (p := ⟨b1, o + k * 3 + 1, none⟩) HBS.out).trans HC1.out
              have k4 := (hR.cell (p := ⟨b1, o + k * 3 + 2, none⟩) HBS.out).trans HC2.out
              refine ⟨?_, ?_⟩
              · simp [Region.wanted, yielded, hF]
              · go_simp
                with_reducible rfl
          show ∀ W, _ → _
          intro w8 hR2
          simp only [FinOf, List.nil_append, List.cons_append, List.getD_cons_zero, List.getD_cons_succ, forall_eq, forall_exists_index, and_imp, Nat.reduceAdd, Array.getD_eq_getD_getElem?, List.getElem?_toArray, List.getElem?_cons_zero, List.getElem?_cons_succ, Option.getD_some]
          have HR2 := Lib.hid hR2
          clear hR2
          go_wp2_with fail
          refine (setI_any q N (y0, y1) yv w8 (hJ.out.1.below HR2.out) HYL.out HNL.out).mono ?_
          rintro e w9 ⟨rfl, N', h1, h2, h3, h4⟩
          have hBw := hJ.out.2.2.2.1.trans (HR2.out.mono hJ.out.2.2.2.1.size)
          have HQ2 : Hid (MapAtI w9 q N' ∧ N'.length ≤ 2 * (k + 1) ∧ (∀ b u, Val N' b u ↔ Val (D.take (k + 1)) b u) ∧ Below w4.heap.size w4 w9 ∧ MRowI w9 w5.heap.size (.slice (some ⟨b1, o, none⟩) D.length c7) D) :=
            Lib.hid ⟨h1, by have := hJ.out.2.1; omega, HNX.out N' h2, Below.then_only hBw h4 HQ5.out hBw.size, RowAt.shy (hJ.out.2.2.2.2.below HR2.out) h4 HQL.out⟩
          clear h1 h2 h3 h4 hBw
          go_wp2
          go_roundw
          case measure => simp [intOf]; omega
          case rel => exact ⟨k + 1, N', by omega, by go_num, HQ2⟩
        · obtain rfl : k = D.length := by omega
          have hv := hJ.out.2.2.1
          rw [List.take_length] at hv
          have e3 : N = P3 := HF.out N hJ.out.1.norm hv
          subst e3
          have HNL : Hid (N.length ≤ 80) := Lib.hid HLN.out.2.2
          have hNi : (N.length : Int) ≤ 80 := by have := HNL.out; omega
          have hne : ((N.length : Int) != (N.length : Int)) = false := by simp
          clear hv hk hlt
          obtain ⟨A3, cap3, rfl, -, -, h3⟩ := HX3.out.read
          have H3 := Lib.hid h3
          clear h3
          go_wp2_with fail
          refine (allI_any q N wr hJ.out.1 (by have := HNL.out; omega)).mono ?_
          rintro e w8 ⟨x4, rfl, hX4, hB8⟩
          obtain ⟨A4, cap4, rfl, -, -, h4⟩ := hX4.parts.read
          have H4 := Lib.hid h4
          have HB8 := Lib.hid (hJ.out.2.2.2.1.trans (hB8.mono hJ.out.2.2.2.1.size))
          have HWB : Hid (∀ W, Below w8.heap.size w8 W → Below w.heap.size w W) := Lib.hid fun W hW => (hI.out.2.2.trans (HB4.out.mono hI.out.2.2.size)).trans ((HB8.out.trans (hW.mono HB8.out.size)).mono (hI.out.2.2.trans (HB4.out.mono hI.out.2.2.size)).size)
          clear h4 hX4 hB8
          go_wp2_with fail
          go_loopw [18] (fun i wr => ∃ k : Nat, k ≤ N.length ∧ i = .int .i64 k ∧ Hid (Below w8.heap.size w8 wr)) (fun i _ => N.length - (intOf i).toNat)
          case atStart => exact ⟨0, by omega, rfl, Lib.hid (Below.refl _ _)⟩
          case round =>
            obtain ⟨k, hk, rfl, hE⟩ := hrel
            by_cases hlt : k < N.length
            · obtain ⟨b1, o, rfl, hbs, c0, c1, c2⟩ := H3.out k hlt
              obtain ⟨b2, o2, rfl, hbs2, c3, c4, c5⟩ := H4.out k hlt
              have hyin := HIN.out N[k] (List.getElem_mem hlt)
              generalize N[k] = y at c0 c1 c2 c3 c4 c5 hyin
              obtain ⟨⟨y0, y1⟩, yv⟩ := y
              simp only at c0 c1 c2 c3 c4 c5 hyin
              have hB4 := HB8.out.trans (hE.out.mono HB8.out.size)
              have HBS := Lib.hid (And.intro (Nat.lt_of_lt_of_le hbs hB4.size) (Nat.lt_of_lt_of_le hbs2 hE.out.size))
              have HC0 := Lib.hid ((hB4.cell (p := ⟨b1, o + k * 3, none⟩) hbs).trans c0)
              have HC1 := Lib.hid ((hB4.cell (p := ⟨b1, o + k * 3 + 1, none⟩) hbs).trans c1)
              have HC2 := Lib.hid ((hB4.cell (p := ⟨b1, o + k * 3 + 2, none⟩) hbs).trans c2)
              have HC3 := Lib.hid ((hE.out.cell (p := ⟨b2, o2 + k * 3, none⟩) hbs2).trans c3)
              have HC4 := Lib.hid ((hE.out.cell (p := ⟨b2, o2 + k * 3 + 1, none⟩) hbs2).trans c4)
              have HC5 := Lib.hid ((hE.out.cell (p := ⟨b2, o2 + k * 3 + 2, none⟩) hbs2).trans c5)
              have f1 : decide (y0 < f) = false := decide_eq_false (by omega)
              have f2 : decide (y1 > t) = false := decide_eq_false (by omega)
              have f3 : decide (t < y1) = false := decide_eq_false (by omega)
              clear hbs hbs2 c0 c1 c2 c3 c4 c5 hyin hB4
              go_wp2_with fail
              refine wp_region_ex (by kernel_rfl) (fun W => Below wr.heap.size wr W) (fun W W' => Below W.heap.size W W')
                [[(13, none)], [(18, none)], [(113, some 0), (114, some 1)], [(115, some 2)], [(17, none)], [(18, none)], [(117, some 4), (118, some 5)], [(119, some 6)], [(116, some 3), (120, some 7)], [(121, some 8)], [(13, none), (122, some 9)], [(18, none), (122, some 9)], [(122, some 9), (123, some 10), (124, some 11)], [(122, some 9), (125, some 12)], [(122, some 9), (126, some 13)], [(122, some 9), (127, some 14)], [(1, none), (122, some 9)], [(122, some 9), (128, some 15), (129, some 16)], [(122, some 9), (130, some 17)], [(131, some 18)], [(13, none), (132, some 19)], [(18, none), (132, some 19)], [(132, some 19), (133, some 20), (134, some 21)], [(132, some 19), (135, some 22)], [(132, some 19), (136, some 23)], [(132, some 19), (137, some 24)], [(3, none), (132, some 19)], [(132, some 19), (138, some 25), (139, some 26)], [(132, some 19), (140, some 27)]]
                [none, none, none, none, none, none, none, none, none, none, none, none, none, none, none, none, none, none, none, none, none, none, none, none, none, none, none, none, none, none, none, none, none, none, none, none, none, none, none, none, none, none, none, none, none, none, none, none, none, none, none, none, none, none, none, none, none, none, none, none, none, none, none, none, none, none, none, none, none, none, none, none, none, none, none, none, none, none, none, none, none, none, none, none, none, none, none, none, none, none, none, none, none, none, none, none, none, none, none, none, none, none, none, none, none, none, none, none, none, none, none, none, none, some 0, some 1, some 2, some 3, some 4, some 5, some 6, some 7, some 8, some 9, some 10, some 11, some 12, some 13, some 14, some 15, some 16, some 17, some 18, some 19, some 20, some 21, some 22, some 23, some 24, some 25, some 26, some 27, some 28, none] (by kernel_rfl) (by kernel_rfl) ((Below.refl _ _).drew) ?_
              iterate 29
                refine ex_pure (c := ?_) (fun _ _ => Below.refl _ _) ?_ ?_
                rotate_left
                · intro a' W hR hF
                  simp only [FactsOf, List.nil_append, List.cons_append, List.getD_cons_zero, List.getD_cons_succ, exists_eq_left, and_true, List.getElem?_toArray, List.getElem?_cons_zero, List.getElem?_cons_succ] at hF
                  have k0 := (hR.cell (p := ⟨b1, o + k * 3, none⟩) HBS.out.1).trans HC0.out
                  have k1 := (hR.cell (p := ⟨b1, o + k * 3 + 1, none⟩) HBS.out.1).trans HC1.out
                  have k2 := (hR.cell (p := ⟨b1, o + k * 3 + 2, none⟩) HBS.out.1).trans HC2.out
                  have k3 := (hR.cell (p := ⟨b2, o2 + k * 3, none⟩) HBS.out.2).trans HC3.out
                  have k4 := (hR.cell (p := ⟨b2, o2 + k * 3 + 1, none⟩) HBS.out.2).trans HC4.out
                  have k5 := (hR.cell (p := ⟨b2, o2 + k * 3 + 2, none⟩) HBS.out.2).trans HC5.out
                  refine ⟨?_, ?_⟩
                  · simp [Region.wanted, yielded, hF]
                  · go_simp
                    with_reducible rfl
              show ∀ W, _ → _
              intro w9 hR2
              simp only [FinOf, List.nil_append, List.cons_append, List.getD_cons_zero, List.getD_cons_succ, forall_eq, forall_exists_index, and_imp, Nat.reduceAdd, Array.getD_eq_getD_getElem?, List.getElem?_toArray, List.getElem?_cons_zero, List.getElem?_cons_succ, Option.getD_some]
              have HR9 := Lib.hid hR2
              clear hR2
              go_wp2
              go_roundw
              case measure => simp [intOf]; omega
              case rel => exact ⟨k + 1, by omega, by go_num, Lib.hid (hE.out.trans (HR9.out.mono hE.out.size))⟩
            · obtain rfl : k = N.length := by omega
              clear hk hlt
              go_wp2_with fail
              refine (alive7_any wr).mono ?_
              rintro e w9 ⟨rfl, hB9⟩
              have HB9 := Lib.hid (HWB.out w9 (hE.out.trans (hB9.mono hE.out.size)))
              clear hB9
              go_wp2
              go_ret
              exact ⟨rfl, HB9.out⟩

set_option maxRecDepth 100000 in
theorem imapParts_lifted (os : Os) (started : os.Started) (H : Type) (enc : TypeId × Value → H) :
    ReturnsInHanded {} Try.checked os 5 .any (Rows.imapPartsSpec.pre6 enc Try.prog Try.f5 Rows.imapPartsRow.domain false) (Rows.imapPartsSpec.post enc Try.prog Try.f5 false true false false) := by
  refine returnsInHanded_of_change (C := Try.checked) own started (by kernel_rfl) Try.func5
    (ChangeSpec.witness6 (enc := enc) (C := Try.checked) false ⟨#[], #[.slice none 0 0, .int .i64 0, .int .i64 0, .int .i64 0], []⟩ 8 (by kernel_rfl) (by kernel_rfl) (by kernel_rfl) (by kernel_rfl)) ?_
  intro W base args ds gs before hval0 hW _ _
  have hval : ∀ (j : Nat) t v, Try.f5.params[j]? = some t → args[j]? = some v → Value.okWide Try.prog W .any base t v := hval0
  have hW' := hW
  obtain ⟨p, q, hA0, hV, rfl, hfz, hnd⟩ := hW
  have hA : DataW.TrodAll enc Try.prog W 0 (fun _ => true) true Try.f5.params.toList args.toList ds p := hA0
  rw [Try.params5] at hA hval
  obtain ⟨v0, vs0, d0, ds0, p0, q0, hargs, rfl, rfl, h0, r0⟩ := trodAll_cons hA
  obtain ⟨v1, vs1, d1, ds1, p1, q1, rfl, rfl, rfl, h1, r1⟩ := trodAll_cons r0
  obtain ⟨v2, vs2, d2, ds2, p2, q2, rfl, rfl, rfl, h2, r2⟩ := trodAll_cons r1
  obtain ⟨v3, vs3, d3, ds3, p3, q3, rfl, rfl, rfl, h3, r3⟩ := trodAll_cons r2
  obtain ⟨rfl, rfl, rfl⟩ := trodAll_nil r3
  obtain rfl : args = #[v0, v1, v2, v3] := by cases args; simp_all
  obtain ⟨rfl, rfl⟩ := trodVars_none hV
  have k0 := h0
  have lt0 : ∀ x ∈ p0, x.block < W.heap.size := by obtain ⟨m, hm⟩ := k0; exact DataW.trod_lt m _ _ _ hm
  have k1 := h1
  have lt1 : ∀ x ∈ p1, x.block < W.heap.size := by obtain ⟨m, hm⟩ := k1; exact DataW.trod_lt m _ _ _ hm
  have k2 := h2
  have lt2 : ∀ x ∈ p2, x.block < W.heap.size := by obtain ⟨m, hm⟩ := k2; exact DataW.trod_lt m _ _ _ hm
  have k3 := h3
  have lt3 : ∀ x ∈ p3, x.block < W.heap.size := by obtain ⟨m, hm⟩ := k3; exact DataW.trod_lt m _ _ _ hm
  obtain ⟨a0, w0⟩ := ops_open (hval 0 37 v0 rfl rfl) k0
  obtain ⟨a1, rfl, rfl, rfl, w1⟩ := open_int Try.underlying3 (hval 1 3 v1 rfl rfl) h1
  obtain ⟨a2, rfl, rfl, rfl, w2⟩ := open_int Try.underlying3 (hval 2 3 v2 rfl rfl) h2
  obtain ⟨a3, rfl, rfl, rfl, w3⟩ := open_int Try.underlying3 (hval 3 3 v3 rfl rfl) h3
  clear hA0 hval0
  refine (imapParts_walk v0 a0 a1 w1 a2 w2 a3 w3 W w0).mono fun e W' ⟨he, bel⟩ => ?_
  subst he
  exact ⟨_, rfl, _, _, _, [], _, [], hW', trodAll_mk1 (shut_bool Try.underlying4 _), (trodAll_cons_mk (Below.trod laidOut (by kernel_rfl) (of_decide_eq_true (by kernel_rfl)) k0 bel lt0) (trodAll_cons_mk (Below.trod laidOut (by kernel_rfl) (of_decide_eq_true (by kernel_rfl)) k1 bel lt1) (trodAll_cons_mk (Below.trod laidOut (by kernel_rfl) (of_decide_eq_true (by kernel_rfl)) k2 bel lt2) (trodAll_cons_mk (Below.trod laidOut (by kernel_rfl) (of_decide_eq_true (by kernel_rfl)) k3 bel lt3) trodAll_mk0)))), rfl, bel.frame _, fun h => by cases h⟩

theorem imapParts_said : Rows.ImapPartsSaid :=
  OpenClaim.holds_of_wide 5 Try.f5 rfl rfl rfl rfl rfl rfl rfl ⟨rfl, rfl, rfl, rfl, rfl⟩ rfl rfl rfl rfl rfl (by kernel_rfl) Try.func5 (by kernel_rfl)
    (of_decide_eq_true (by kernel_rfl)) (by unfold Func.isWrapper; first | (rw [if_pos (by decide +kernel)]; kernel_rfl) | (rw [if_neg (by decide +kernel)]; exact ⟨rfl, rfl⟩))
    (fun os started H enc _ => imapParts_lifted os started H enc)
#print axioms imapParts_said
end Go.Proofs.Ytalmcflcpljnmaa
