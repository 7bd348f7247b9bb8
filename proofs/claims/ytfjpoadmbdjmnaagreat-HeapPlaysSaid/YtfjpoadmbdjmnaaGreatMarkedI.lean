/- commonsbook's markedInts: lists that bear their marks. -/
import Derived.Test.YtfjpoadmbdjmnaaGreatMarks
import Derived.Test.YtfjpoadmbdjmnaaGreatFlat
namespace Go.Proofs.YtfjpoadmbdjmnaaGreat
open Go Go.RowKit
set_option maxRecDepth 100000
set_option maxHeartbeats 1000000
set_option linter.unusedSimpArgs false

theorem markedInts_yes (us : List Value) (v : Value) (w : World) (hv : Vals w v us) (hlen : us.length ≤ 250) (hl : ∀ (i : Nat) (x : Value), us[i]? = some x → ∃ n, n ≤ 1000000 ∧ Ints w x (marksI i 0 n)) :
    Calls Tryz.prog 73 #[v] w fun e w' => e = .returned (.bool true) ∧ Below w.heap.size w w' := by
  obtain ⟨A, ca, rfl, ha1, ha2, ha3⟩ := SliceAt.one_ (f := fun v => v) hv
  have hl250 : (us.length : Int) ≤ 250 := by omega
  have HA := Lib.hid ha3
  have HL := Lib.hid hl
  clear ha3 hv hl
  go_enter Tryz.func73, Tryz.ntmps73
  go_wp2
  go_loopw [3] (fun i wr => ∃ k : Nat, k ≤ us.length ∧ i = .int .i64 k ∧ Below w.heap.size w wr) (fun i _ => us.length - (intOf i).toNat)
  case atStart => exact ⟨0, by omega, rfl, Below.refl _ _⟩
  case round =>
    obtain ⟨k, hk, rfl, hB⟩ := hrel
    by_cases hlt : k < us.length
    · obtain ⟨b, o, rfl, hb, hcb⟩ := HA.out k hlt
      obtain ⟨n, hn, hI⟩ := HL.out k us[k] (List.getElem?_eq_getElem hlt)
      have hcr := (hB.cell (p := ⟨b, o + k, none⟩) hb).trans hcb
      have hI2 := hI.keep hB.size (fun p hp => hB.cell hp)
      generalize us[k] = x at hcr hI2
      obtain ⟨Ax, cx, rfl, hx1, hx2, _⟩ := hI2.one_
      rw [marksI_length] at hcr hx1 hI2
      have hlt3 : (k : Int) < (us.length : Int) := by omega
      have hn2 : (n : Int) ≤ 1000000 := by omega
      have HC := Lib.hid (And.intro (Nat.lt_of_lt_of_le hb hB.size) hcr)
      have HI := Lib.hid (And.intro hI2 hn)
      have HB := Lib.hid hB
      have hk1000 : k ≤ 1000 := by omega
      clear hb hcb hI hI2 hcr hB hn
      go_wp2_with fail
      refine wp_region_ex (by kernel_rfl) (fun W => Below wr.heap.size wr W) (fun W W' => Below W.heap.size W W')
        [[(0, none)], [(3, none)], [(10, some 0), (11, some 1)], [(12, some 2)], [(3, none)], [(0, none)], [(3, none)], [(15, some 5), (16, some 6)], [(17, some 7)], [(18, some 8)], [(14, some 4), (19, some 9)], [(13, some 3), (20, some 10)], [(21, some 11)]]
        [none, none, none, none, none, none, none, none, none, none, some 0, some 1, some 2, some 3, some 4, some 5, some 6, some 7, some 8, some 9, some 10, some 11, some 12] (by kernel_rfl) (by kernel_rfl) ((Below.refl _ _).drew) ?_
      iterate 10
        refine ex_pure (c := ?_) (fun _ _ => Below.refl _ _) ?_ ?_
        rotate_left
        · intro a W hR hF
          simp only [FactsOf, List.nil_append, List.cons_append, List.getD_cons_zero, List.getD_cons_succ, exists_eq_left, and_true, List.getElem?_toArray, List.getElem?_cons_zero, List.getElem?_cons_succ] at hF
          have hcW := (hR.cell (p := ⟨b, o + k, none⟩) HC.out.1).trans HC.out.2
          refine ⟨?_, ?_⟩
          · simp [Region.wanted, yielded, hF]
          · go_simp
            with_reducible rfl
      refine ex_callv (fun v W => IRow W wr.heap.size v (marksI k 0 n)) (fun v W W' _ hS h => RowAt.below h hS) (fun a W hR hF => ?_) ?_
      · simp only [FactsOf, List.nil_append, List.cons_append, List.getD_cons_zero, List.getD_cons_succ, exists_eq_left, and_true, List.getElem?_toArray, List.getElem?_cons_zero, List.getElem?_cons_succ] at hF
        refine ⟨by simp [Region.wanted, yielded, hF], 111, #[.int .i64 k, .int .i64 0, .int .i64 n], by go_simp, (markInts_any k 0 n W (by omega) (by omega) HI.out.2).mono fun e w' ⟨u, he, hi, hb⟩ => ⟨u, he, hR.trans (hb.mono hR.size), hb, RowAt.mono hi hR.size⟩⟩
      refine ex_callx (.bool true) (fun a W hR hF => ?_) ?_
      · simp only [FactsOf, List.nil_append, List.cons_append, List.getD_cons_zero, List.getD_cons_succ, exists_eq_left, and_true, List.getElem?_toArray, List.getElem?_cons_zero, List.getElem?_cons_succ] at hF
        obtain ⟨h13, v, hv, h20⟩ := hF
        refine ⟨by simp [Region.wanted, yielded, h13], 16, #[.slice Ax n cx, v], by go_simp, (sameInts_yes (.slice Ax n cx) v (marksI k 0 n) W (HI.out.1.keep hR.size (fun p hp => hR.cell hp)) (IRow.ints hv)).mono fun e w' ⟨he, m, hw⟩ => ⟨he, hw ▸ below_drewN hR m, hw ▸ below_drewN (Below.refl _ _) m⟩⟩
      iterate 1
        refine ex_pure (c := ?_) (fun _ _ => Below.refl _ _) ?_ ?_
        rotate_left
        · intro a W hR hF
          simp only [FactsOf, List.nil_append, List.cons_append, List.getD_cons_zero, List.getD_cons_succ, exists_eq_left, and_true, List.getElem?_toArray, List.getElem?_cons_zero, List.getElem?_cons_succ] at hF
          refine ⟨?_, ?_⟩
          · simp [Region.wanted, yielded, hF]
          · go_simp
            with_reducible rfl
      show ∀ W, _ → _
      intro W hb
      simp only [FinOf, List.nil_append, List.cons_append, List.getD_cons_zero, List.getD_cons_succ, forall_eq, forall_exists_index, and_imp, Nat.reduceAdd, Array.getD_eq_getD_getElem?, List.getElem?_toArray, List.getElem?_cons_zero, List.getElem?_cons_succ, Option.getD_some]
      intros
      have HB2 := Lib.hid (HB.out.trans (hb.mono HB.out.size))
      clear hb
      go_wp2
      go_roundw
      case rel => exact ⟨k + 1, by omega, by go_num, HB2.out⟩
      case measure => simp [intOf]; omega
    · have HB := Lib.hid hB
      clear hB
      go_wp2
      go_ret
      exact ⟨rfl, HB.out⟩
end Go.Proofs.YtfjpoadmbdjmnaaGreat
