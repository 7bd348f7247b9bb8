/- Package wlog: Free. -/
import Derived.Test.YtlaclbcckadmkaaGreatWlE
namespace Go.Proofs.YtlaclbcckadmkaaGreat
open Go Go.RowKit DskP WlP
set_option maxRecDepth 100000
set_option maxHeartbeats 1000000
set_option linter.unusedSimpArgs false

namespace WlP
/-- The first j records are let go of. -/
def wdrop (G : Lg) (j : Nat) : Lg := { G with first := G.first + j, kept := G.kept.drop j, used := G.used - sumS (G.kept.take j) }
theorem wlet_drop {G : Lg} {below : Nat} (h : G.first ≤ below) : wlet G below = wdrop G (below - G.first) := by
  unfold wlet wdrop
  rw [show G.first + (below - G.first) = below by omega]
theorem wdrop_zero (G : Lg) : wdrop G 0 = G := by
  unfold wdrop
  simp [sumS]
theorem wfree_count {G : Lg} (D : Dsk) (below : Nat) : (wfree G D below).2.2.count ≤ D.count + 1 := by
  have h1 := wbegin_count G D below (whereF G below)
  unfold wfree
  split
  · exact Nat.le_add_right _ _
  · split
    · exact Nat.le_add_right _ _
    · split
      · exact Nat.le_add_right _ _
      · split <;> exact h1
theorem sumS_take_le (l : List (Nat × Nat)) (j : Nat) : sumS (l.take j) ≤ sumS l := by have := sumS_drop l j; omega
theorem sumS_take_succ {l : List (Nat × Nat)} {j : Nat} (h : j < l.length) : sumS (l.take (j + 1)) = sumS (l.take j) + l[j].2 := by
  rw [List.take_succ_eq_append_getElem h, sumS_append]
end WlP
/-- How far a log's first record stands below a number. -/
def gapW (p below : Nat) (w : World) : Nat := match w.cell? ⟨p, 6, none⟩ with | some (.int _ n) => below - n.toNat | _ => 0
theorem gapW_of {p below n : Nat} {w : World} (h : w.cell? ⟨p, 6, none⟩ = some (.int .u64 (n : Int))) : gapW p below w = below - n := by
  unfold gapW
  rw [h]
  show below - ((n : Nat) : Int).toNat = _
  rw [Int.toNat_natCast]
theorem lgfree_any (d p k q : Nat) (G : Lg) (D : Dsk) (hG : LgOk G) (hc : D.count ≤ 990000) (below : Nat) (hbl : (below : Int) < 18446744073709551616) :
    Turns (LDP d p k q G D) (LDP d p k q (wfree G D below).2.1 (wfree G D below).2.2) 13 #[.pointer (some ⟨p, 0, none⟩), .int .u64 (below : Int)] (.returned (.int .i64 ((wfree G D below).1 : Int))) := by
  refine Turns.of_at fun S w0 hS h => ?_
  have hs0 := h.sits
  have HRD := Lib.hid (lgready_any d p k q G w0 hs0)
  unfold wfree
  cases hb : G.broken
  · rw [hb, if_neg (by simp)] at HRD
    rw [if_neg (by simp)]
    have hN := hG.next
    have hpn := hG.pendN
    have hsy := hG.sync
    have hkn := hG.keptN
    have c9 : w0.cell? ⟨p, 9, none⟩ = some (.int .u64 (G.synced : Int)) := hs0.cell 9
    have c6 : w0.cell? ⟨p, 6, none⟩ = some (.int .u64 (G.first : Int)) := hs0.cell 6
    have e1 : IntKind.u64.wrap ((G.synced : Int) + 1) = ((G.synced + 1 : Nat) : Int) := by rw [Int.natCast_add]; exact IntWalk.u64_in _ (by omega)
    by_cases h1 : G.synced + 1 < below
    · rw [if_pos h1]
      have d1 : decide (G.synced + 1 < below) = true := decide_eq_true h1
      have HA := Lib.hid h
      generalize G.synced + 1 = x at *
      clear h hs0 hG hc hb hN hpn hsy hkn
      go_enter Tryz.func13, Tryz.ntmps13
      go_wp2_with fail
      refine HRD.out.mono ?_
      rintro e w1 ⟨rfl, rfl⟩
      go_wp2
      go_ret
      exact ⟨rfl, HA.out⟩
    · rw [if_neg h1]
      have d1 : decide (G.synced + 1 < below) = false := decide_eq_false h1
      by_cases h2 : below ≤ G.first
      · rw [if_pos h2]
        have d2 : decide (below ≤ G.first) = true := decide_eq_true h2
        have HA := Lib.hid h
        generalize G.synced + 1 = x at *
        clear h hs0 hG hc hb hN hpn hsy hkn
        go_enter Tryz.func13, Tryz.ntmps13
        go_wp2_with fail
        refine HRD.out.mono ?_
        rintro e w1 ⟨rfl, rfl⟩
        go_wp2
        go_ret
        exact ⟨rfl, HA.out⟩
      · rw [if_neg h2]
        have d2 : decide (below ≤ G.first) = false := decide_eq_false h2
        obtain ⟨g, g', hr1, hr2⟩ := h.rings
        have HWH := Lib.hid (lgwhere_any d p k q G hG below (by omega) (by omega) g w0 hs0 hr1)
        have hwl := hG.where_ below
        have hp2 := hG.p2
        have HBG := Lib.hid fun W (hW : At (LDP d p k q G D) S w0 W) => (lgbegin_any d p k q G D hG (by omega) below (whereF G below) hbl).at_ hS hW
        have HDN := Lib.hid fun W (hW : Below w0.heap.size w0 W) => h.down (holdLD d p k q G D) hW
        have hsm := wbegin_same G D below (whereF G below)
        obtain ⟨r, G1, D1, hr⟩ : ∃ r G1 D1, wbegin G D below (whereF G below) = (r, G1, D1) := ⟨_, _, _, rfl⟩
        rw [hr] at HBG hsm ⊢
        simp only at HBG hsm ⊢
        generalize whereF G below = wh at HWH HBG
        by_cases hr0 : r = 0
        · subst hr0
          rw [if_neg (by simp)]
          have hG1 := hsm.ok hG
          have hf1 : G1.first = G.first := hsm.first
          rw [wlet_drop (by omega)]
          obtain ⟨N, hN2⟩ : ∃ N, N = below - G1.first := ⟨_, rfl⟩
          rw [← hN2]
          have hbl2 : below = G1.first + N := by omega
          have hNk : N ≤ G1.kept.length := by have := hG1.keptN; have := hG1.pendN; have := hsm.next; have := hsm.written; omega
          have hB10 : below ≤ 1000000001 := by omega
          have hus := hG1.used
          have hrm := hG1.room
          have hp12 := hG1.p2
          have HQ := Lib.hid (And.intro hbl2 (And.intro hNk (And.intro hB10 (And.intro hus (And.intro hrm hp12)))))
          have HG1 := Lib.hid hG1
          clear hbl2 hNk hB10 hus hrm hp12 hG1 hf1 hsm
          generalize hx : G.synced + 1 = x at *
          clear h hs0 hG hc hb hN hpn hsy hkn h1 h2 hr1 hr2 hwl hp2 hr hN2 hx hbl
          go_enter Tryz.func13, Tryz.ntmps13
          go_wp2_with fail
          refine HRD.out.mono ?_
          rintro e w1 ⟨rfl, rfl⟩
          go_wp2_with fail
          refine HWH.out.mono ?_
          rintro e w1 ⟨rfl, hb⟩
          have HB := Lib.hid hb
          clear hb
          go_wp2_with fail
          refine (HBG.out w1 (HDN.out w1 HB.out)).mono ?_
          rintro e w2 ⟨rfl, hA⟩
          have HA2 : Hid (At (LDP d p k q (wdrop G1 0) D1) S w0 w2) := Lib.hid (by rw [wdrop_zero]; exact hA)
          clear hA
          go_wp2_with fail
          go_loopw [] (fun wr => ∃ j, j ≤ N ∧ Hid (At (LDP d p k q (wdrop G1 j) D1) S w0 wr)) (fun wr => gapW p below wr)
          case atStart => exact ⟨0, by omega, HA2.out⟩
          case round =>
            obtain ⟨j, hj, hI⟩ := hrel
            obtain ⟨hbl2, hNk, hB10, hus, hrm, hp12⟩ := HQ.out
            have hs1 := hI.out.sits
            have c6 : wr.cell? ⟨p, 6, none⟩ = some (.int .u64 ((G1.first + j : Nat) : Int)) := hs1.cell 6
            have c10 : wr.cell? ⟨p, 10, none⟩ = some (.pointer (some ⟨k, 0, none⟩)) := hs1.cell 10
            by_cases hlt : j < N
            · have hjk : j < G1.kept.length := by omega
              have hcons : (wdrop G1 j).kept = G1.kept[j] :: G1.kept.drop (j + 1) := List.drop_eq_getElem_cons hjk
              have HPOP := Lib.hid (hI.out.popE hS hcons)
              have htk := sumS_take_succ hjk
              have hle := sumS_take_le G1.kept (j + 1)
              obtain ⟨U1, hU1⟩ : ∃ U, U = G1.used - sumS (G1.kept.take j) := ⟨_, rfl⟩
              obtain ⟨U2, hU2⟩ : ∃ U, U = G1.used - sumS (G1.kept.take (j + 1)) := ⟨_, rfl⟩
              generalize G1.kept[j] = x at HPOP htk
              have e2 : IntKind.i64.wrap ((U1 : Int) - (x.2 : Int)) = (U2 : Int) := by rw [show (U1 : Int) - (x.2 : Int) = (U2 : Int) by omega]; exact IntWalk.i64_in _ (by omega)
              have e3 : IntKind.u64.wrap (((G1.first + j : Nat) : Int) + 1) = ((G1.first + (j + 1) : Nat) : Int) := by rw [show ((G1.first + j : Nat) : Int) + 1 = ((G1.first + (j + 1) : Nat) : Int) by omega]; exact IntWalk.u64_in _ (by omega)
              have d3 : decide (G1.first + j < below) = true := decide_eq_true (by omega)
              have d4 : G1.first + j < below := by omega
              have hgap : gapW p below wr = below - (G1.first + j) := gapW_of c6
              have HGAP := Lib.hid hgap
              obtain ⟨fj, hfj⟩ : ∃ x, x = G1.first + j := ⟨_, rfl⟩
              obtain ⟨fj2, hfj2⟩ : ∃ x, x = G1.first + (j + 1) := ⟨_, rfl⟩
              have HST : Hid (∀ W, At (LDP d p k q { wdrop G1 j with kept := G1.kept.drop (j + 1) } D1) S w0 W → At (LDP d p k q (wdrop G1 (j + 1)) D1) S w0 ((W.setCell ⟨p, 12, none⟩ (.int .i64 (U2 : Int))).setCell ⟨p, 6, none⟩ (.int .u64 (fj2 : Int))) ∧
                  W.cell? ⟨p, 12, none⟩ = some (.int .i64 (U1 : Int)) ∧ W.cell? ⟨p, 6, none⟩ = some (.int .u64 (fj : Int)) ∧ W.frozen? ⟨p, 12, none⟩ = false ∧ W.frozen? ⟨p, 6, none⟩ = false ∧ p < W.heap.size) := Lib.hid fun W hW => by
                have hsW := hW.sits
                refine ⟨?_, by rw [hU1]; exact hsW.cell 12, by rw [hfj]; exact hsW.cell 6, hsW.warm 12, hsW.warm 6, hsW.lt⟩
                rw [hU2, hfj2]
                exact At.store (G' := wdrop G1 (j + 1)) (At.store (G' := { wdrop G1 j with kept := G1.kept.drop (j + 1), used := G1.used - sumS (G1.kept.take (j + 1)) }) hW 12 _ rfl rfl rfl rfl) 6 _ rfl rfl rfl rfl
              have HLD := Lib.hid fun W W' (hW : At (LDP d p k q { wdrop G1 j with kept := G1.kept.drop (j + 1) } D1) S w0 W) (hb : Below W.heap.size W W') => hW.down (holdLD d p k q _ D1) hb
              rw [← hfj] at c6 d3 d4 e3
              rw [← hfj2] at e3
              have HFJ := Lib.hid (And.intro hfj hfj2)
              clear hbl2 hNk hB10 hus hrm hp12 hs1 hI hcons htk hle hU1 hU2 hgap hfj hfj2 hjk
              go_wp2_with fail
              refine HPOP.out.mono ?_
              rintro e w3 ⟨rfl, hA⟩
              have hA4 := HLD.out w3 (w3.alloc (.cells #[.int .i64 (x.1 : Int), .int .i64 (x.2 : Int)] 78)) hA ((Below.refl _ w3).alloc (Nat.le_refl _) _)
              have hE : Sits (w3.alloc (.cells #[.int .i64 (x.1 : Int), .int .i64 (x.2 : Int)] 78)) w3.heap.size 78 #[.int .i64 (x.1 : Int), .int .i64 (x.2 : Int)] := Sits.fresh w3 _ _
              have HLTA := Lib.hid hA.sits.lt
              obtain ⟨W4, hW4⟩ : ∃ W, W = w3.alloc (.cells #[.int .i64 (x.1 : Int), .int .i64 (x.2 : Int)] 78) := ⟨_, rfl⟩
              obtain ⟨eb, heb⟩ : ∃ e, e = w3.heap.size := ⟨_, rfl⟩
              rw [← hW4] at hA4 hE
              rw [← heb] at hE HLTA
              have z1 : W4.cell? ⟨eb, 1, none⟩ = some (.int .i64 (x.2 : Int)) := hE.cell 1
              have hA5 := HLD.out W4 W4.drew hA4 (Below.refl _ _).drew
              obtain ⟨hf4, c12, c6', f12, f6, hlt4⟩ := HST.out W4 hA4
              have HF5 := Lib.hid (HST.out W4.drew hA5).1
              have HF4 := Lib.hid hf4
              have hpe : p ≠ eb := by have := HLTA.out; omega
              clear hA hA4 hA5 hf4 hE
              go_wp2_with fail
              rw [← hW4, ← heb]
              clear hW4 heb
              go_region
              all_goals go_wp2
              all_goals go_roundw
              all_goals first
                | exact ⟨j + 1, by omega, HF5.out⟩
                | exact ⟨j + 1, by omega, HF4.out⟩
                | (rw [HGAP.out]
                   refine Nat.lt_of_le_of_lt (Nat.le_of_eq (gapW_of (n := G1.first + (j + 1)) (HF5.out.sits.cell 6))) ?_
                   have := HFJ.out
                   omega)
            · have hjN : j = N := by omega
              subst hjN
              have HA := Lib.hid hI.out
              have d3 : decide (G1.first + j < below) = false := decide_eq_false (by omega)
              have d4 : ¬ G1.first + j < below := by omega
              clear hI hs1 hbl2 hNk hB10 hus hrm hp12 hlt hj
              generalize G1.first + j = fj at c6 d3 d4
              go_wp2
              go_ret
              exact ⟨rfl, HA.out⟩
        · rw [if_pos hr0]
          have d3 : ((r : Int) != 0) = true := by rw [bne_iff_ne]; omega
          generalize G.synced + 1 = x at *
          clear h hs0 hG hc hb hN hpn hsy hkn h1 h2 hr1 hr2 hwl hp2 hr hsm hr0 hbl
          go_enter Tryz.func13, Tryz.ntmps13
          go_wp2_with fail
          refine HRD.out.mono ?_
          rintro e w1 ⟨rfl, rfl⟩
          go_wp2_with fail
          refine HWH.out.mono ?_
          rintro e w1 ⟨rfl, hb⟩
          have HB := Lib.hid hb
          clear hb
          go_wp2_with fail
          refine (HBG.out w1 (HDN.out w1 HB.out)).mono ?_
          rintro e w2 ⟨rfl, hA⟩
          have HA2 := Lib.hid hA
          clear hA
          go_wp2
          go_ret
          exact ⟨rfl, HA2.out⟩
  · rw [hb, if_pos rfl] at HRD
    rw [if_pos rfl]
    have HA := Lib.hid h
    clear h hs0 hG hc hb
    go_enter Tryz.func13, Tryz.ntmps13
    go_wp2_with fail
    refine HRD.out.mono ?_
    rintro e w1 ⟨rfl, rfl⟩
    go_wp2
    go_ret
    exact ⟨rfl, HA.out⟩
end Go.Proofs.YtlaclbcckadmkaaGreat
