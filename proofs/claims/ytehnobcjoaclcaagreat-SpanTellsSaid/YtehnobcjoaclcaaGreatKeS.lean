/- commonsbook's lists of Spans: still, put, marked. -/
import Derived.Test.YtehnobcjoaclcaaGreatKdS
import Derived.Test.YtehnobcjoaclcaaGreatBkK
import Derived.Test.YtehnobcjoaclcaaGreatGB
import Derived.Test.YtehnobcjoaclcaaGreatGE
namespace Go.Proofs.YtehnobcjoaclcaaGreat
open Go Go.RowKit
open SpanP
set_option maxRecDepth 100000
set_option maxHeartbeats 1000000
set_option linter.unusedSimpArgs false

theorem sameSpans_q (u v : Value) (l : List S) (w : World) (hu : Spans w u l) (hv : Spans w v l) (n j : Nat) :
    Calls Tryz.prog 19 #[u, v] (w.drewN (n + j)) fun e w' => e = .returned (.bool true) ∧ ∃ m, w' = w.drewN (n + m) := by
  refine (eqSpans_yes u v l (w.drewN (n + j)) (hu.keep (w' := w.drewN (n + j)) (Nat.le_refl _) (fun _ _ => rfl)) (hv.keep (w' := w.drewN (n + j)) (Nat.le_refl _) (fun _ _ => rfl))).mono ?_
  rintro e w' ⟨rfl, i, rfl⟩
  exact ⟨rfl, j + i, by rw [World.drewN_drewN, Nat.add_assoc]⟩
theorem stillSpans_yes (p : Nat) (us ts : List Value) (u t : Value) (w : World) (c2 : w.cell? ⟨p, 6, none⟩ = some u) (c3 : w.cell? ⟨p, 6 + 1, none⟩ = some t) (hu : Vals w u us) (ht : Vals w t ts)
    (hn : ts.length = us.length) (hl : ∀ (i : Nat) (x y : Value), us[i]? = some x → ts[i]? = some y → ∃ l, Spans w x l ∧ Spans w y l) :
    Calls Tryz.prog 44 #[.pointer (some ⟨p, 0, none⟩)] w fun e w' => e = .returned (.bool true) ∧ ∃ n, w' = w.drewN n := by
  obtain ⟨A, ca, rfl, ha1, ha2, ha3⟩ := SliceAt.one_ (f := fun v => v) hu
  obtain ⟨B, cb, rfl, hb1, hb2, hb3⟩ := SliceAt.one_ (f := fun v => v) ht
  rw [hn] at c3 hb1
  have hlen : (us.length : Int) ≤ 9223372036854775807 := by omega
  have HA := Lib.hid ha3
  have HB := Lib.hid hb3
  have HL := Lib.hid hl
  have HN := Lib.hid hn
  clear ha3 hb3 hu ht hl hn
  go_enter Tryz.func44, Tryz.ntmps44
  go_wp2
  go_loopw [3] (fun i wr => ∃ k : Nat, k ≤ us.length ∧ i = .int .i64 k ∧ ∃ n, wr = w.drewN n) (fun i _ => us.length - (intOf i).toNat)
  case atStart => exact ⟨0, by omega, rfl, 0, rfl⟩
  case round =>
    obtain ⟨k, hk, rfl, n, rfl⟩ := hrel
    by_cases hlt : k < us.length
    · obtain ⟨b, o, rfl, _, hcb⟩ := HA.out k hlt
      obtain ⟨b', o', rfl, _, hcb'⟩ := HB.out k (by have := HN.out; omega)
      have hk2 : k < ts.length := by have := HN.out; omega
      obtain ⟨l, hi1, hi2⟩ := HL.out k us[k] ts[k] (List.getElem?_eq_getElem hlt) (List.getElem?_eq_getElem hk2)
      generalize us[k] = x1 at hcb hi1
      generalize ts[k] = x2 at hcb' hi2
      clear hk2
      have HI := Lib.hid (And.intro hi1 hi2)
      obtain ⟨Ax, cx, rfl, -, -, -⟩ := Spans.read hi1
      obtain ⟨Ay, cy, rfl, -, -, -⟩ := Spans.read hi2
      clear hi1 hi2
      go_wp2_with fail
      go_quiet (exact sameSpans_q _ _ l w HI.out.1 HI.out.2 n _)
      go_wp2
      go_roundw
      case rel => exact ⟨k + 1, by omega, by go_num, _, rfl⟩
      case measure => simp [intOf]; omega
    · go_wp2
      go_ret
      exact ⟨rfl, n, rfl⟩
theorem markedSpans_yes (us : List Value) (v : Value) (w : World) (hv : Vals w v us) (hlen : us.length ≤ 250) (hl : ∀ (i : Nat) (x : Value), us[i]? = some x → ∃ n, n ≤ 1000000 ∧ Spans w x (marksSpans i 0 n)) :
    Calls Tryz.prog 89 #[v] w fun e w' => e = .returned (.bool true) ∧ Below w.heap.size w w' := by
  obtain ⟨A, ca, rfl, ha1, ha2, ha3⟩ := SliceAt.one_ (f := fun v => v) hv
  have hl250 : (us.length : Int) ≤ 250 := by omega
  have HA := Lib.hid ha3
  have HL := Lib.hid hl
  clear ha3 hv hl
  go_enter Tryz.func89, Tryz.ntmps89
  go_wp2
  go_loopw [3] (fun i wr => ∃ k : Nat, k ≤ us.length ∧ i = .int .i64 k ∧ Hid (Below w.heap.size w wr)) (fun i _ => us.length - (intOf i).toNat)
  case atStart => exact ⟨0, by omega, rfl, Lib.hid (Below.refl _ _)⟩
  case round =>
    obtain ⟨k, hk, rfl, hB⟩ := hrel
    by_cases hlt : k < us.length
    · obtain ⟨b, o, rfl, hb, hcb⟩ := HA.out k hlt
      obtain ⟨n, hn, hI⟩ := HL.out k us[k] (List.getElem?_eq_getElem hlt)
      have hcr := (hB.out.cell (p := ⟨b, o + k, none⟩) hb).trans hcb
      have hI2 := hI.keep hB.out.size (fun p hp => hB.out.cell hp)
      generalize us[k] = x at hcr hI2
      obtain ⟨Ax, cx, rfl, hx1, hx2, _⟩ := Spans.read hI2
      rw [marksSpans_length] at hcr hx1 hI2
      have hlt3 : (k : Int) < (us.length : Int) := by omega
      have hn2 : (n : Int) ≤ 1000000 := by omega
      have HC := Lib.hid (And.intro (Nat.lt_of_lt_of_le hb hB.out.size) hcr)
      have HI := Lib.hid (And.intro hI2 hn)
      have hk1000 : k ≤ 1000 := by omega
      clear hb hcb hI hI2 hcr hn
      go_wp2_with fail
      refine wp_region_ex (by kernel_rfl) (fun W => Below wr.heap.size wr W) (fun W W' => Below W.heap.size W W')
        [[(0, none)], [(3, none)], [(10, some 0), (11, some 1)], [(12, some 2)], [(3, none)], [(0, none)], [(3, none)], [(15, some 5), (16, some 6)], [(17, some 7)], [(18, some 8)], [(14, some 4), (19, some 9)], [(13, some 3), (20, some 10)], [(21, some 11)]]
        [none, none, none, none, none, none, none, none, none, none, some 0, some 1, some 2, some 3, some 4, some 5, some 6, some 7, some 8, some 9, some 10, some 11, some 12] (by kernel_rfl) (by kernel_rfl) ((Below.refl _ _).drew) ?_
      iterate 10
        refine ex_pure (c := ?_) (fun _ _ => Below.refl _ _) ?_ ?_
        rotate_left
        · intro a' W hR hF
          simp only [FactsOf, List.nil_append, List.cons_append, List.getD_cons_zero, List.getD_cons_succ, exists_eq_left, and_true, List.getElem?_toArray, List.getElem?_cons_zero, List.getElem?_cons_succ] at hF
          have hcW := (hR.cell (p := ⟨b, o + k, none⟩) HC.out.1).trans HC.out.2
          refine ⟨?_, ?_⟩
          · simp [Region.wanted, yielded, hF]
          · go_simp
            with_reducible rfl
      refine ex_callv (fun v W => SRow W wr.heap.size v (marksSpans k 0 n)) (fun v W W' _ hS h => RowAt.below h hS) (fun a W hR hF => ?_) ?_
      ·
        simp only [FactsOf, List.nil_append, List.cons_append, List.getD_cons_zero, List.getD_cons_succ, exists_eq_left, and_true, List.getElem?_toArray, List.getElem?_cons_zero, List.getElem?_cons_succ] at hF
        refine ⟨by simp [Region.wanted, yielded, hF], 125, #[.int .i64 k, .int .i64 0, .int .i64 n], by go_simp, (markSpans_any k 0 n W (by omega) (by omega) HI.out.2).mono fun e w' ⟨u, he, hi, hb⟩ => ⟨u, he, hR.trans (hb.mono hR.size), hb, RowAt.mono hi hR.size⟩⟩
      refine ex_callx (.bool true) (fun a W hR hF => ?_) ?_
      ·
        simp only [FactsOf, List.nil_append, List.cons_append, List.getD_cons_zero, List.getD_cons_succ, exists_eq_left, and_true, List.getElem?_toArray, List.getElem?_cons_zero, List.getElem?_cons_succ] at hF
        obtain ⟨h13, v, hv, h20⟩ := hF
        refine ⟨by simp [Region.wanted, yielded, h13], 19, #[.slice Ax n cx, v], by go_simp, (eqSpans_yes (.slice Ax n cx) v (marksSpans k 0 n) W (HI.out.1.keep hR.size (fun p hp => hR.cell hp)) (SRow.spans hv)).mono fun e w' ⟨he, m, hw⟩ => ⟨he, hw ▸ below_drewN hR m, hw ▸ below_drewN (Below.refl _ _) m⟩⟩
      iterate 1
        refine ex_pure (c := ?_) (fun _ _ => Below.refl _ _) ?_ ?_
        rotate_left
        · intro a' W hR hF
          simp only [FactsOf, List.nil_append, List.cons_append, List.getD_cons_zero, List.getD_cons_succ, exists_eq_left, and_true, List.getElem?_toArray, List.getElem?_cons_zero, List.getElem?_cons_succ] at hF
          refine ⟨?_, ?_⟩
          · simp [Region.wanted, yielded, hF]
          · go_simp
            with_reducible rfl
      show ∀ W, _ → _
      intro w9 hR2
      simp only [FinOf, List.nil_append, List.cons_append, List.getD_cons_zero, List.getD_cons_succ, forall_eq, forall_exists_index, and_imp, Nat.reduceAdd, Array.getD_eq_getD_getElem?, List.getElem?_toArray, List.getElem?_cons_zero, List.getElem?_cons_succ, Option.getD_some]
      intros
      have HB2 := Lib.hid (hB.out.trans (hR2.mono hB.out.size))
      clear hR2
      go_wp2
      go_roundw
      case rel => exact ⟨k + 1, by omega, by go_num, HB2⟩
      case measure => simp [intOf]; omega
    · go_wp2
      go_ret
      exact ⟨rfl, hB.out⟩
end Go.Proofs.YtehnobcjoaclcaaGreat
