/- ImapWith: the spans that have a value are just the blocks whose value it is; whatever was done to the map, whatever the value and the block are. -/
import Derived.Test.YtalmcflcpljnmaaImapH
import Derived.Test.YtalmcflcpljnmaaImapO
import Derived.OpenShut
import Derived.ChangeOld
namespace Go.Proofs.Ytalmcflcpljnmaa
open Go Go.RowKit Go.ChangeShapes Go.WideShapes SpanP PartP ImapP
set_option maxRecDepth 100000
set_option maxHeartbeats 4000000
set_option linter.unusedSimpArgs false

theorem spans_next {m : List S} (h : SpanP.Norm m) {j : Nat} (hl : j + 1 < m.length) : m[j].2 < m[j + 1].1 :=
  List.pairwise_iff_getElem.1 h.up j (j + 1) (by omega) hl (by omega)
theorem in_takes {l : List S} {k : Nat} (h : k < l.length) {c : Int} : In (l.take (k + 1)) c ↔ In (l.take k) c ∨ Has l[k] c := by
  rw [List.take_succ_eq_append_getElem h, in_snoc]
open Classical in
theorem with_end {L : List (PtV Int)} (hL : PNorm L) (v c : Int) : decide (In (withV v L) c) = ((blockV L c).isSome && decide ((blockV L c).getD 0 = v)) := by
  rcases e : blockV L c with _ | u
  · have := blockV_none hL e v
    simp [withV_in, this]
  · have h1 := (blockV_some hL).1 e
    by_cases h : u = v
    · subst h
      simp [withV_in, h1]
    · have : ¬ Val L c v := fun h2 => h (PNorm.one hL h1 h2)
      simp [withV_in, this, h]
theorem wrap_small (j : Nat) (h : j ≤ 1000000) : IntKind.i64.wrap (j : Int) = (j : Int) := IntWalk.i64_in _ (by omega)
theorem next_facts (j n : Nat) (h : j + 1 < n) : decide ((j : Int) + 1 > 0) = true ∧ decide ((0 : Int) < (j : Int) + 1) = true ∧ (j : Int) < (n : Int) ∧ (j : Int) + 1 < (n : Int) ∧ decide ((j : Int) < (n : Int)) = true ∧ decide ((j : Int) + 1 < (n : Int)) = true ∧ (0 : Int) ≤ (j : Int) + 1 := by
  refine ⟨decide_eq_true (by omega), decide_eq_true (by omega), by omega, by omega, decide_eq_true (by omega), decide_eq_true (by omega), by omega⟩
open Classical in
theorem imapWith_walk (v0 : Value) (l : List Op7) (v : Int) (_wv : (Lit.int .i64 v).wf = true) (c : Int) (_wc : (Lit.int .i64 c).wf = true) (w : World) (h0 : (∀ x ∈ l, goodO x) ∧ Opl w v0 l) :
    Calls Try.prog 7 #[v0, .int .i64 v, .int .i64 c] w fun e w' => e = .returned (.bool true) ∧ Below w.heap.size w w' := by
  clear _wv _wc
  obtain ⟨hgood, hs⟩ := h0
  obtain ⟨A, ca, rfl, ha1, ha2, ha3⟩ := hs.read
  have HA := Lib.hid ha3
  have HG := Lib.hid hgood
  clear ha3 hs hgood
  by_cases hl : l.length ≤ 40
  · have hd : decide ((l.length : Int) > 40) = false := decide_eq_false (by omega)
    have hd2 : decide ((40 : Int) < (l.length : Int)) = false := decide_eq_false (by omega)
    have HL := Lib.hid hl
    have hlen : (l.length : Int) ≤ 40 := by omega
    clear hl ha1
    go_enter Try.func7, Try.ntmps7
    go_wp2_with fail
    refine (newI_any w).mono ?_
    rintro e w1 ⟨p, rfl, hp, hM, hB⟩
    have HM1 := Lib.hid hM
    have HB1 := Lib.hid hB
    have HP := Lib.hid hp
    clear hp hM hB
    go_wp2_with fail
    go_loopw [8] (fun i wr => ∃ (k : Nat) (L : List (PtV Int)), k ≤ l.length ∧ i = .int .i64 k ∧ Hid (MapAtI wr p L ∧ L.length ≤ 2 * k ∧ Below w.heap.size w wr)) (fun i _ => l.length - (intOf i).toNat)
    case atStart => exact ⟨0, [], by omega, rfl, Lib.hid ⟨HM1.out, by simp, HB1.out⟩⟩
    case round =>
      obtain ⟨k, L, hk, rfl, hI⟩ := hrel
      by_cases hlt : k < l.length
      · obtain ⟨b1, o, rfl, hbs, c0, c1, c2, c3, c4⟩ := HA.out k hlt
        have hgd := HG.out l[k] (List.getElem_mem hlt)
        generalize l[k] = y at c0 c1 c2 c3 c4 hgd
        obtain ⟨yk, yv, yw, ⟨ya, yb⟩⟩ := y
        simp only at c0 c1 c2 c3 c4
        have hB := hI.out.2.2
        have d0 := (hB.cell (p := ⟨b1, o + k * 5, none⟩) hbs).trans c0
        have d1 := (hB.cell (p := ⟨b1, o + k * 5 + 1, none⟩) hbs).trans c1
        have d3 := (hB.cell (p := ⟨b1, o + k * 5 + 3, none⟩) hbs).trans c3
        have d4 := (hB.cell (p := ⟨b1, o + k * 5 + 4, none⟩) hbs).trans c4
        have HBS : Hid (b1 < wr.heap.size) := Lib.hid (Nat.lt_of_lt_of_le hbs hB.size)
        have HY : Hid (yb ≤ top) := Lib.hid (by have := hgd.2.2.2.2; unfold i64B at this; unfold top; exact this.2)
        have HLL : Hid (L.length ≤ 50000) := Lib.hid (by have := hI.out.2.1; have := HL.out; omega)
        have HD1 := Lib.hid d1
        have HD3 := Lib.hid d3
        have HD4 := Lib.hid d4
        clear c0 c1 c2 c3 c4 hgd hB hbs
        by_cases hk2 : yk = 2
        · subst hk2
          go_wp2_with fail
          refine (clearI_any p L (ya, yb) wr hI.out.1 HY.out HLL.out).mono ?_
          rintro e w2 ⟨rfl, l', h1, -, h3, h4⟩
          have HQ : Hid (MapAtI w2 p l' ∧ l'.length ≤ 2 * (k + 1) ∧ Below w.heap.size w w2) := Lib.hid ⟨h1, by have := hI.out.2.1; omega, Below.then_only hI.out.2.2 h4 HP.out hI.out.2.2.size⟩
          clear h1 h3 h4 d0 d1 d3 d4
          go_wp2
          go_roundw
          case measure => simp [intOf]; omega
          case rel => exact ⟨k + 1, l', by omega, by go_num, HQ⟩
        · have hk2d : (yk == 2) = false := by simpa using hk2
          clear hk2
          go_wp2_with fail
          clear d0 d1 d3 d4
          refine wp_region_tail 11 (by kernel_rfl) (fun W => Below wr.heap.size wr W) (fun W W' => Below W.heap.size W W')
            [[(7, none)], [(0, none)], [(8, none)], [(41, some 1), (42, some 2)], [(43, some 3)], [(44, some 4)], [(0, none)], [(8, none)], [(46, some 6), (47, some 7)], [(48, some 8)], [(49, some 9)], [(40, some 0), (45, some 5), (50, some 10)]]
            [none, none, none, none, none, none, none, none, none, none, none, none, none, none, none, none, none, none, none, none, none, none, none, none, none, none, none, none, none, none, none, none, none, none, none, none, none, none, none, none, some 0, some 1, some 2, some 3, some 4, some 5, some 6, some 7, some 8, some 9, some 10, none, none, none, none, none, none, none, none, none, none, none, none, none, none, none, none, none, none, none, none, none, none, none, none, none, none, none, none, none, none, none, none, none, none, none, none, none, none, none, none, none, none, none, none, none, none, none, none, none, none, none, none] (by kernel_rfl) (by kernel_rfl) (by kernel_rfl) ((Below.refl _ _).drew) ?_
          simp only [List.take_succ_cons, List.take_zero, List.drop_succ_cons, List.drop_zero]
          iterate 11
            refine ex_pure (c := ?_) (fun _ _ => Below.refl _ _) ?_ ?_
            rotate_left
            · intro a' W hR hF
              simp only [FactsOf, List.nil_append, List.cons_append, List.getD_cons_zero, List.getD_cons_succ, exists_eq_left, and_true, List.getElem?_toArray, List.getElem?_cons_zero, List.getElem?_cons_succ] at hF
              have k1 := (hR.cell (p := ⟨b1, o + k * 5 + 1, none⟩) HBS.out).trans HD1.out
              have k3 := (hR.cell (p := ⟨b1, o + k * 5 + 3, none⟩) HBS.out).trans HD3.out
              have k4 := (hR.cell (p := ⟨b1, o + k * 5 + 4, none⟩) HBS.out).trans HD4.out
              refine ⟨?_, ?_⟩
              · simp [Region.wanted, yielded, hF]
              · go_simp
                with_reducible rfl
          show ∀ W, _ → _
          intro w2 hR2
          simp only [FinOf, List.nil_append, List.cons_append, List.getD_cons_zero, List.getD_cons_succ, forall_eq, forall_exists_index, and_imp, Nat.reduceAdd, Array.getD_eq_getD_getElem?, List.getElem?_toArray, List.getElem?_cons_zero, List.getElem?_cons_succ, Option.getD_some]
          have HR2 := Lib.hid hR2
          clear hR2
          go_wp2_with fail
          refine (setI_any p L (ya, yb) yv w2 (hI.out.1.below HR2.out) HY.out HLL.out).mono ?_
          rintro e w3 ⟨rfl, l', h1, -, h3, h4⟩
          have hBw := hI.out.2.2.trans (HR2.out.mono hI.out.2.2.size)
          have HQ : Hid (MapAtI w3 p l' ∧ l'.length ≤ 2 * (k + 1) ∧ Below w.heap.size w w3) := Lib.hid ⟨h1, by have := hI.out.2.1; omega, Below.then_only hBw h4 HP.out hBw.size⟩
          clear h1 h3 h4 hBw
          go_wp2
          go_roundw
          case measure => simp [intOf]; omega
          case rel => exact ⟨k + 1, l', by omega, by go_num, HQ⟩
      · obtain rfl : k = l.length := by omega
        have HLL : Hid (L.length ≤ 1000000) := Lib.hid (by have := hI.out.2.1; have := HL.out; omega)
        clear hk hlt
        go_wp2_with fail
        refine (with_any p L v wr hI.out.1 HLL.out).mono ?_
        rintro e w2 ⟨x, rfl, hX, hB2⟩
        have hWn := withV_norm (v := v) hI.out.1.norm
        obtain ⟨r, hr⟩ : ∃ r, r = ((blockV L c).isSome && decide ((blockV L c).getD 0 = v)) := ⟨_, rfl⟩
        have hend := with_end hI.out.1.norm v c
        rw [← hr] at hend
        have hwl : (withV v L).length ≤ 1000000 := Nat.le_trans (withV_len v L) HLL.out
        generalize withV v L = W at hX hWn hend hwl
        obtain ⟨AW, cW, rfl, hw1, hw2, hw3⟩ := hX.spans.read
        have HW := Lib.hid hw3
        have HN := Lib.hid hWn
        have HE := Lib.hid hend
        have HR := Lib.hid hr
        have HWL := Lib.hid hwl
        have hwlen : (W.length : Int) ≤ 1000000 := by omega
        have HB2 := Lib.hid hB2
        have HM2 := Lib.hid (hI.out.1.below hB2)
        clear hX hWn hw3 hw1 hB2 hend hr hwl
        go_wp2_with fail
        go_loopw [10, 11] (fun q i wr => ∃ k : Nat, k ≤ W.length ∧ i = .int .i64 k ∧ q = .bool (decide (In (W.take k) c)) ∧ Hid (Below w2.heap.size w2 wr)) (fun _ i _ => W.length - (intOf i).toNat)
        case atStart => exact ⟨0, by omega, rfl, by simp [not_in_nil], Lib.hid (Below.refl _ _)⟩
        case round =>
          obtain ⟨k, hk, rfl, rfl, hJ⟩ := hrel
          by_cases hlt : k < W.length
          · obtain ⟨b1, o, rfl, hbs, c0, c1⟩ := HW.out k hlt
            obtain ⟨y, hy⟩ : ∃ y, y = W[k] := ⟨_, rfl⟩
            rw [← hy] at c0 c1
            have hin : decide (In (W.take (k + 1)) c) = (decide (In (W.take k) c) || decide (Has y c)) := by
              rw [hy, ← Bool.decide_or]
              exact decide_eq_decide.2 (in_takes hlt)
            obtain ⟨q, hqd⟩ : ∃ q, decide (In (W.take k) c) = q := ⟨_, rfl⟩
            rw [hqd]
            obtain ⟨y0, y1⟩ := y
            simp only at c0 c1
            have HC0 := Lib.hid c0
            have HBS := Lib.hid hbs
            have hcb := hJ.out
            have d0 := (hcb.cell (p := ⟨b1, o + k * 2, none⟩) hbs).trans c0
            have d1 := (hcb.cell (p := ⟨b1, o + k * 2 + 1, none⟩) hbs).trans c1
            have hhas : ∀ W, Calls Try.prog 27 #[.agg #[.int .i64 y0, .int .i64 y1], .int .i64 c] W fun e w' => e = .returned (.bool (decide (Has (y0, y1) c))) ∧ Below W.heap.size W w' := fun W => (has_any (y0, y1) c W).mono fun _ _ ⟨h1, h2⟩ => ⟨by rw [h1], grown_below h2⟩
            have HH := Lib.hid hhas
            have HIN := Lib.hid hin
            have HY : Hid (∀ h : k < W.length, (y0, y1) = W[k]) := Lib.hid fun _ => hy
            have HLT := Lib.hid hlt
            have hstep : ∀ w4, Below w2.heap.size w2 w4 → w4.cell? ⟨b1, o + k * 2, none⟩ = some (.int .i64 y0) := fun w4 hB => (hB.cell (p := ⟨b1, o + k * 2, none⟩) hbs).trans HC0.out
            have HST := Lib.hid hstep
            clear c0 c1 hbs hcb hhas hin hy hstep
            rw [hqd] at HIN
            rcases k with _ | j
            · clear HST
              simp only [Nat.zero_mul, Nat.add_zero] at d0 d1
              cases q
              · have HQQ : Hid (decide (In (W.take (0 + 1)) c) = decide (Has (y0, y1) c)) := Lib.hid (by rw [HIN.out, Bool.false_or])
                clear HIN
                go_wp2_with fail
                refine (HH.out _).mono ?_
                rintro e w4 ⟨rfl, hB4⟩
                have HB4 := Lib.hid (hJ.out.trans (hB4.mono hJ.out.size))
                clear hB4 d0 d1
                generalize decide (Has (y0, y1) c) = q4 at HQQ
                go_wp2_with fail
                refine wp_region_ex (by kernel_rfl) (fun W => Below w4.heap.size w4 W) (fun W W' => Below W.heap.size W W')
                  [[(11, none)], [(70, some 0)], [(71, some 1)], [(9, none), (72, some 2)], [(11, none), (72, some 2)], [(72, some 2), (74, some 4)], [(72, some 2), (73, some 3), (75, some 5)], [(72, some 2), (76, some 6)], [(72, some 2), (77, some 7)], [(9, none), (72, some 2)], [(11, none), (72, some 2)], [(72, some 2), (79, some 9), (80, some 10)], [(72, some 2), (81, some 11)], [(72, some 2), (82, some 12)], [(72, some 2), (78, some 8), (83, some 13)], [(72, some 2), (84, some 14)]]
                  [none, none, none, none, none, none, none, none, none, none, none, none, none, none, none, none, none, none, none, none, none, none, none, none, none, none, none, none, none, none, none, none, none, none, none, none, none, none, none, none, none, none, none, none, none, none, none, none, none, none, none, none, none, none, none, none, none, none, none, none, none, none, none, none, none, none, none, none, none, none, some 0, some 1, some 2, some 3, some 4, some 5, some 6, some 7, some 8, some 9, some 10, some 11, some 12, some 13, some 14, some 15, none, none, none, none, none, none, none, none, none, none, none, none, none, none, none, none, none] (by kernel_rfl) (by kernel_rfl) ((Below.refl _ _).drew) ?_
                iterate 3
                  refine ex_pure (c := ?_) (fun _ _ => Below.refl _ _) ?_ ?_
                  rotate_left
                  · intro a' W hR hF
                    simp only [FactsOf, List.nil_append, List.cons_append, List.getD_cons_zero, List.getD_cons_succ, exists_eq_left, and_true, List.getElem?_toArray, List.getElem?_cons_zero, List.getElem?_cons_succ] at hF
                    refine ⟨?_, ?_⟩
                    · simp [Region.wanted, yielded, hF]
                    · go_simp
                      with_reducible rfl
                iterate 12
                  refine ex_skip (fun _ _ => Below.refl _ _) ?_ ?_
                  · intro a' W hR hF
                    simp only [FactsOf, List.nil_append, List.cons_append, List.getD_cons_zero, List.getD_cons_succ, exists_eq_left, and_true, List.getElem?_toArray, List.getElem?_cons_zero, List.getElem?_cons_succ] at hF
                    simp [Region.wanted, yielded, hF]
                iterate 1
                  refine ex_pure (c := ?_) (fun _ _ => Below.refl _ _) ?_ ?_
                  rotate_left
                  · intro a' W hR hF
                    simp only [FactsOf, List.nil_append, List.cons_append, List.getD_cons_zero, List.getD_cons_succ, exists_eq_left, and_true, List.getElem?_toArray, List.getElem?_cons_zero, List.getElem?_cons_succ] at hF
                    refine ⟨?_, ?_⟩
                    · simp [Region.wanted, yielded, hF]
                    · go_simp
                      with_reducible rfl
                show ∀ W, _ → _
                intro w5 hR2
                simp only [FinOf, List.nil_append, List.cons_append, List.getD_cons_zero, List.getD_cons_succ, forall_eq, forall_exists_index, and_imp, Nat.reduceAdd, Array.getD_eq_getD_getElem?, List.getElem?_toArray, List.getElem?_cons_zero, List.getElem?_cons_succ, Option.getD_some]
                have HR5 := Lib.hid hR2
                clear hR2
                go_wp2
                go_roundw
                case measure => simp [intOf]; omega
                case rel => exact ⟨1, by have := HLT.out; omega, by go_num, by rw [HQQ.out], Lib.hid (HB4.out.trans (HR5.out.mono HB4.out.size))⟩
              · have HQQ : Hid (decide (In (W.take (0 + 1)) c) = true) := Lib.hid (by rw [HIN.out, Bool.true_or])
                clear HIN d0 d1
                go_wp2_with fail
                refine wp_region_ex (by kernel_rfl) (fun W => Below wr.heap.size wr W) (fun W W' => Below W.heap.size W W')
                  [[(11, none)], [(70, some 0)], [(71, some 1)], [(9, none), (72, some 2)], [(11, none), (72, some 2)], [(72, some 2), (74, some 4)], [(72, some 2), (73, some 3), (75, some 5)], [(72, some 2), (76, some 6)], [(72, some 2), (77, some 7)], [(9, none), (72, some 2)], [(11, none), (72, some 2)], [(72, some 2), (79, some 9), (80, some 10)], [(72, some 2), (81, some 11)], [(72, some 2), (82, some 12)], [(72, some 2), (78, some 8), (83, some 13)], [(72, some 2), (84, some 14)]]
                  [none, none, none, none, none, none, none, none, none, none, none, none, none, none, none, none, none, none, none, none, none, none, none, none, none, none, none, none, none, none, none, none, none, none, none, none, none, none, none, none, none, none, none, none, none, none, none, none, none, none, none, none, none, none, none, none, none, none, none, none, none, none, none, none, none, none, none, none, none, none, some 0, some 1, some 2, some 3, some 4, some 5, some 6, some 7, some 8, some 9, some 10, some 11, some 12, some 13, some 14, some 15, none, none, none, none, none, none, none, none, none, none, none, none, none, none, none, none, none] (by kernel_rfl) (by kernel_rfl) ((Below.refl _ _).drew) ?_
                iterate 3
                  refine ex_pure (c := ?_) (fun _ _ => Below.refl _ _) ?_ ?_
                  rotate_left
                  · intro a' W hR hF
                    simp only [FactsOf, List.nil_append, List.cons_append, List.getD_cons_zero, List.getD_cons_succ, exists_eq_left, and_true, List.getElem?_toArray, List.getElem?_cons_zero, List.getElem?_cons_succ] at hF
                    refine ⟨?_, ?_⟩
                    · simp [Region.wanted, yielded, hF]
                    · go_simp
                      with_reducible rfl
                iterate 12
                  refine ex_skip (fun _ _ => Below.refl _ _) ?_ ?_
                  · intro a' W hR hF
                    simp only [FactsOf, List.nil_append, List.cons_append, List.getD_cons_zero, List.getD_cons_succ, exists_eq_left, and_true, List.getElem?_toArray, List.getElem?_cons_zero, List.getElem?_cons_succ] at hF
                    simp [Region.wanted, yielded, hF]
                iterate 1
                  refine ex_pure (c := ?_) (fun _ _ => Below.refl _ _) ?_ ?_
                  rotate_left
                  · intro a' W hR hF
                    simp only [FactsOf, List.nil_append, List.cons_append, List.getD_cons_zero, List.getD_cons_succ, exists_eq_left, and_true, List.getElem?_toArray, List.getElem?_cons_zero, List.getElem?_cons_succ] at hF
                    refine ⟨?_, ?_⟩
                    · simp [Region.wanted, yielded, hF]
                    · go_simp
                      with_reducible rfl
                show ∀ W, _ → _
                intro w5 hR2
                simp only [FinOf, List.nil_append, List.cons_append, List.getD_cons_zero, List.getD_cons_succ, forall_eq, forall_exists_index, and_imp, Nat.reduceAdd, Array.getD_eq_getD_getElem?, List.getElem?_toArray, List.getElem?_cons_zero, List.getElem?_cons_succ, Option.getD_some]
                have HR5 := Lib.hid hR2
                clear hR2
                go_wp2
                go_roundw
                case measure => simp [intOf]; omega
                case rel => exact ⟨1, by have := HLT.out; omega, by go_num, by rw [HQQ.out], Lib.hid (hJ.out.trans (HR5.out.mono hJ.out.size))⟩
            · obtain ⟨b2, o2, e2, hbs2, -, c12⟩ := HW.out j (by have := HLT.out; omega)
              simp only [Option.some.injEq, Addr.mk.injEq, and_true] at e2
              obtain ⟨rfl, rfl⟩ := e2
              have hnx := spans_next HN.out HLT.out
              rw [← HY.out HLT.out] at hnx
              simp only at hnx
              have hj9 : j + 1 ≤ 1000000 := by have := HLT.out; have := HWL.out; omega
              have t8 := wrap_small j (Nat.le_of_succ_le hj9)
              obtain ⟨m1, m2, m3, m4, m5, m6⟩ := last_facts j hj9
              clear hj9
              obtain ⟨t1, t2, t3, t4, t5, t6, t7⟩ := next_facts j W.length HLT.out
              generalize W[j].2 = z1 at c12 hnx
              have HPV : Hid (∀ w4, Below w2.heap.size w2 w4 → w4.cell? ⟨b1, o + j * 2 + 1, none⟩ = some (.int .i64 z1)) := Lib.hid fun w4 hB => (hB.cell (p := ⟨b1, o + j * 2 + 1, none⟩) hbs2).trans c12
              have n1 : decide (z1 ≥ y0) = false := decide_eq_false (by omega)
              have n2 : decide (y0 ≤ z1) = false := decide_eq_false (by omega)
              clear c12 hbs2 hnx
              cases q
              · have HQQ : Hid (decide (In (W.take (j + 1 + 1)) c) = decide (Has (y0, y1) c)) := Lib.hid (by rw [HIN.out, Bool.false_or])
                clear HIN
                go_wp2_with fail
                refine (HH.out _).mono ?_
                rintro e w4 ⟨rfl, hB4⟩
                have HB4 := Lib.hid (hJ.out.trans (hB4.mono hJ.out.size))
                clear hB4 d0 d1
                generalize decide (Has (y0, y1) c) = q4 at HQQ
                go_wp2_with fail
                refine wp_region_ex (by kernel_rfl) (fun W => Below w4.heap.size w4 W) (fun W W' => Below W.heap.size W W')
                  [[(11, none)], [(70, some 0)], [(71, some 1)], [(9, none), (72, some 2)], [(11, none), (72, some 2)], [(72, some 2), (74, some 4)], [(72, some 2), (73, some 3), (75, some 5)], [(72, some 2), (76, some 6)], [(72, some 2), (77, some 7)], [(9, none), (72, some 2)], [(11, none), (72, some 2)], [(72, some 2), (79, some 9), (80, some 10)], [(72, some 2), (81, some 11)], [(72, some 2), (82, some 12)], [(72, some 2), (78, some 8), (83, some 13)], [(72, some 2), (84, some 14)]]
                  [none, none, none, none, none, none, none, none, none, none, none, none, none, none, none, none, none, none, none, none, none, none, none, none, none, none, none, none, none, none, none, none, none, none, none, none, none, none, none, none, none, none, none, none, none, none, none, none, none, none, none, none, none, none, none, none, none, none, none, none, none, none, none, none, none, none, none, none, none, none, some 0, some 1, some 2, some 3, some 4, some 5, some 6, some 7, some 8, some 9, some 10, some 11, some 12, some 13, some 14, some 15, none, none, none, none, none, none, none, none, none, none, none, none, none, none, none, none, none] (by kernel_rfl) (by kernel_rfl) ((Below.refl _ _).drew) ?_
                iterate 16
                  refine ex_pure (c := ?_) (fun _ _ => Below.refl _ _) ?_ ?_
                  rotate_left
                  · intro a' W hR hF
                    simp only [FactsOf, List.nil_append, List.cons_append, List.getD_cons_zero, List.getD_cons_succ, exists_eq_left, and_true, List.getElem?_toArray, List.getElem?_cons_zero, List.getElem?_cons_succ] at hF
                    have k0 := HST.out W (HB4.out.trans (hR.mono HB4.out.size))
                    have k1 := HPV.out W (HB4.out.trans (hR.mono HB4.out.size))
                    refine ⟨?_, ?_⟩
                    · simp [Region.wanted, yielded, hF]
                    · go_simp
                      with_reducible rfl
                show ∀ W, _ → _
                intro w5 hR2
                simp only [FinOf, List.nil_append, List.cons_append, List.getD_cons_zero, List.getD_cons_succ, forall_eq, forall_exists_index, and_imp, Nat.reduceAdd, Array.getD_eq_getD_getElem?, List.getElem?_toArray, List.getElem?_cons_zero, List.getElem?_cons_succ, Option.getD_some]
                have HR5 := Lib.hid hR2
                clear hR2
                go_wp2
                go_roundw
                case measure => simp [intOf]; omega
                case rel => exact ⟨j + 1 + 1, by have := HLT.out; omega, by go_num, by rw [HQQ.out], Lib.hid (HB4.out.trans (HR5.out.mono HB4.out.size))⟩
              · have HQQ : Hid (decide (In (W.take (j + 1 + 1)) c) = true) := Lib.hid (by rw [HIN.out, Bool.true_or])
                clear HIN d0 d1
                go_wp2_with fail
                refine wp_region_ex (by kernel_rfl) (fun W => Below wr.heap.size wr W) (fun W W' => Below W.heap.size W W')
                  [[(11, none)], [(70, some 0)], [(71, some 1)], [(9, none), (72, some 2)], [(11, none), (72, some 2)], [(72, some 2), (74, some 4)], [(72, some 2), (73, some 3), (75, some 5)], [(72, some 2), (76, some 6)], [(72, some 2), (77, some 7)], [(9, none), (72, some 2)], [(11, none), (72, some 2)], [(72, some 2), (79, some 9), (80, some 10)], [(72, some 2), (81, some 11)], [(72, some 2), (82, some 12)], [(72, some 2), (78, some 8), (83, some 13)], [(72, some 2), (84, some 14)]]
                  [none, none, none, none, none, none, none, none, none, none, none, none, none, none, none, none, none, none, none, none, none, none, none, none, none, none, none, none, none, none, none, none, none, none, none, none, none, none, none, none, none, none, none, none, none, none, none, none, none, none, none, none, none, none, none, none, none, none, none, none, none, none, none, none, none, none, none, none, none, none, some 0, some 1, some 2, some 3, some 4, some 5, some 6, some 7, some 8, some 9, some 10, some 11, some 12, some 13, some 14, some 15, none, none, none, none, none, none, none, none, none, none, none, none, none, none, none, none, none] (by kernel_rfl) (by kernel_rfl) ((Below.refl _ _).drew) ?_
                iterate 16
                  refine ex_pure (c := ?_) (fun _ _ => Below.refl _ _) ?_ ?_
                  rotate_left
                  · intro a' W hR hF
                    simp only [FactsOf, List.nil_append, List.cons_append, List.getD_cons_zero, List.getD_cons_succ, exists_eq_left, and_true, List.getElem?_toArray, List.getElem?_cons_zero, List.getElem?_cons_succ] at hF
                    have k0 := HST.out W (hJ.out.trans (hR.mono hJ.out.size))
                    have k1 := HPV.out W (hJ.out.trans (hR.mono hJ.out.size))
                    refine ⟨?_, ?_⟩
                    · simp [Region.wanted, yielded, hF]
                    · go_simp
                      with_reducible rfl
                show ∀ W, _ → _
                intro w5 hR2
                simp only [FinOf, List.nil_append, List.cons_append, List.getD_cons_zero, List.getD_cons_succ, forall_eq, forall_exists_index, and_imp, Nat.reduceAdd, Array.getD_eq_getD_getElem?, List.getElem?_toArray, List.getElem?_cons_zero, List.getElem?_cons_succ, Option.getD_some]
                have HR5 := Lib.hid hR2
                clear hR2
                go_wp2
                go_roundw
                case measure => simp [intOf]; omega
                case rel => exact ⟨j + 1 + 1, by have := HLT.out; omega, by go_num, by rw [HQQ.out], Lib.hid (hJ.out.trans (HR5.out.mono hJ.out.size))⟩
          · obtain rfl : k = W.length := by omega
            clear hk hlt
            obtain ⟨q, hqd⟩ : ∃ q, decide (In (W.take W.length) c) = q := ⟨_, rfl⟩
            rw [hqd]
            rw [List.take_length] at hqd
            have HQD : Hid (q = r) := Lib.hid (by rw [← hqd]; exact HE.out)
            clear hqd
            go_wp2_with fail
            refine (getI_any p L c wr (HM2.out.below hJ.out) HLL.out).mono ?_
            rintro e w3 ⟨rfl, hB3⟩
            have HB3 := Lib.hid (((hI.out.2.2.trans (HB2.out.mono hI.out.2.2.size))).trans ((hJ.out.trans (hB3.mono hJ.out.size)).mono (hI.out.2.2.trans (HB2.out.mono hI.out.2.2.size)).size))
            clear hB3
            go_wp2_with fail
            refine (alive7_any w3).mono ?_
            rintro e w4 ⟨rfl, hB4⟩
            have HB4 := Lib.hid (HB3.out.trans (hB4.mono HB3.out.size))
            clear hB4
            have hr := HQD.out.trans HR.out
            rcases hbv : blockV L c with _ | u
            · rw [hbv] at hr
              simp only [Option.isSome_none, Bool.false_and] at hr
              subst hr
              go_wp2
              go_ret
              exact ⟨rfl, HB4.out⟩
            · rw [hbv] at hr
              simp only [Option.isSome_some, Bool.true_and, Option.getD_some] at hr
              subst hr
              by_cases huv : u = v
              · have hu : (u == v) = true := by simpa using huv
                have hu2 : decide (u = v) = true := by simpa using huv
                rw [hu2]
                clear hu2
                go_wp2
                go_ret
                exact ⟨rfl, HB4.out⟩
              · have hu : (u == v) = false := by simpa using huv
                have hu2 : decide (u = v) = false := by simpa using huv
                rw [hu2]
                clear hu2
                go_wp2
                go_ret
                exact ⟨rfl, HB4.out⟩
  · have hd : decide ((l.length : Int) > 40) = true := decide_eq_true (by omega)
    have hd2 : decide ((40 : Int) < (l.length : Int)) = true := decide_eq_true (by omega)
    clear HA hl
    go_enter Try.func7, Try.ntmps7
    go_wp2_with fail
    refine (alive7_any _).mono ?_
    rintro e w1 ⟨rfl, hB⟩
    have HB := Lib.hid hB
    clear hB
    go_wp2
    go_ret
    exact ⟨rfl, HB.out⟩

set_option maxRecDepth 100000 in
theorem imapWith_lifted (os : Os) (started : os.Started) (H : Type) (enc : TypeId × Value → H) :
    ReturnsInHanded {} Try.checked os 7 .any (Rows.imapWithSpec.pre6 enc Try.prog Try.f7 Rows.imapWithRow.domain false) (Rows.imapWithSpec.post enc Try.prog Try.f7 false true false false) := by
  refine returnsInHanded_of_change (C := Try.checked) own started (by kernel_rfl) Try.func7
    (ChangeSpec.witness6 (enc := enc) (C := Try.checked) false ⟨#[], #[.slice none 0 0, .int .i64 0, .int .i64 0], []⟩ 8 (by kernel_rfl) (by kernel_rfl) (by kernel_rfl) (by kernel_rfl)) ?_
  intro W base args ds gs before hval0 hW _ _
  have hval : ∀ (j : Nat) t v, Try.f7.params[j]? = some t → args[j]? = some v → Value.okWide Try.prog W .any base t v := hval0
  have hW' := hW
  obtain ⟨p, q, hA0, hV, rfl, hfz, hnd⟩ := hW
  have hA : DataW.TrodAll enc Try.prog W 0 (fun _ => true) true Try.f7.params.toList args.toList ds p := hA0
  rw [Try.params7] at hA hval
  obtain ⟨v0, vs0, d0, ds0, p0, q0, hargs, rfl, rfl, h0, r0⟩ := trodAll_cons hA
  obtain ⟨v1, vs1, d1, ds1, p1, q1, rfl, rfl, rfl, h1, r1⟩ := trodAll_cons r0
  obtain ⟨v2, vs2, d2, ds2, p2, q2, rfl, rfl, rfl, h2, r2⟩ := trodAll_cons r1
  obtain ⟨rfl, rfl, rfl⟩ := trodAll_nil r2
  obtain rfl : args = #[v0, v1, v2] := by cases args; simp_all
  obtain ⟨rfl, rfl⟩ := trodVars_none hV
  have k0 := h0
  have lt0 : ∀ x ∈ p0, x.block < W.heap.size := by obtain ⟨m, hm⟩ := k0; exact DataW.trod_lt m _ _ _ hm
  have k1 := h1
  have lt1 : ∀ x ∈ p1, x.block < W.heap.size := by obtain ⟨m, hm⟩ := k1; exact DataW.trod_lt m _ _ _ hm
  have k2 := h2
  have lt2 : ∀ x ∈ p2, x.block < W.heap.size := by obtain ⟨m, hm⟩ := k2; exact DataW.trod_lt m _ _ _ hm
  obtain ⟨a0, w0⟩ := ops_open (hval 0 37 v0 rfl rfl) k0
  obtain ⟨a1, rfl, rfl, rfl, w1⟩ := open_int Try.underlying3 (hval 1 3 v1 rfl rfl) h1
  obtain ⟨a2, rfl, rfl, rfl, w2⟩ := open_int Try.underlying3 (hval 2 3 v2 rfl rfl) h2
  clear hA0 hval0
  refine (imapWith_walk v0 a0 a1 w1 a2 w2 W w0).mono fun e W' ⟨he, bel⟩ => ?_
  subst he
  exact ⟨_, rfl, _, _, _, [], _, [], hW', trodAll_mk1 (shut_bool Try.underlying4 _), (trodAll_cons_mk (Below.trod laidOut (by kernel_rfl) (of_decide_eq_true (by kernel_rfl)) k0 bel lt0) (trodAll_cons_mk (Below.trod laidOut (by kernel_rfl) (of_decide_eq_true (by kernel_rfl)) k1 bel lt1) (trodAll_cons_mk (Below.trod laidOut (by kernel_rfl) (of_decide_eq_true (by kernel_rfl)) k2 bel lt2) trodAll_mk0))), rfl, bel.frame _, fun h => by cases h⟩

theorem imapWith_said : Rows.ImapWithSaid :=
  OpenClaim.holds_of_wide 7 Try.f7 rfl rfl rfl rfl rfl rfl rfl ⟨rfl, rfl, rfl, rfl, rfl⟩ rfl rfl rfl rfl rfl (by kernel_rfl) Try.func7 (by kernel_rfl)
    (of_decide_eq_true (by kernel_rfl)) (by unfold Func.isWrapper; first | (rw [if_pos (by decide +kernel)]; kernel_rfl) | (rw [if_neg (by decide +kernel)]; exact ⟨rfl, rfl⟩))
    (fun os started H enc _ => imapWith_lifted os started H enc)
#print axioms imapWith_said
end Go.Proofs.Ytalmcflcpljnmaa
