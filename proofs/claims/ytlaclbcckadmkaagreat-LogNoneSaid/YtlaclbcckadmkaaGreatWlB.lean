/- Package wlog: Fits; its writes and barriers, and begin. -/
import Derived.Test.YtlaclbcckadmkaaGreatWlA
namespace Go.Proofs.YtlaclbcckadmkaaGreat
open Go Go.RowKit DskP WlP
set_option maxRecDepth 100000
set_option maxHeartbeats 1000000
set_option linter.unusedSimpArgs false

theorem lgfits_any (d p k q : Nat) (G : Lg) (hG : LgOk G) (n : Int) (w : World) (h : Sits w p 28 (lgc d k q G)) :
    Calls Tryz.prog 14 #[.pointer (some ⟨p, 0, none⟩), .int .i64 n] w fun e w' => e = .returned (.bool (wfits G n)) ∧ Below w.heap.size w w' := by
  have c4 : w.cell? ⟨p, 4, none⟩ = some (.int .i64 G.places) := h.cell 4
  have c12 : w.cell? ⟨p, 12, none⟩ = some (.int .i64 G.used) := h.cell 12
  have HRD : Hid (∀ j, Calls Tryz.prog 39 #[.pointer (some ⟨p, 0, none⟩)] (w.drewN j) fun e w' => e = .returned (.int .i64 (if G.broken = true then 13 else 0)) ∧ w' = w.drewN j) := Lib.hid fun j => (lgready_any d p k q G (w.drewN j) h).mono fun _ _ ⟨a, b⟩ => ⟨a, b.symm⟩
  have HMO : Hid (∀ j, Calls Tryz.prog 41 #[.pointer (some ⟨p, 0, none⟩)] (w.drewN j) fun e w' => e = .returned (.int .i64 (mostN ((G.places : Int) + 1) : Int)) ∧ w' = w.drewN j) := Lib.hid fun j => (lgmost_any d p k q G hG (w.drewN j) h).mono fun _ _ ⟨a, b⟩ => ⟨a, b.symm⟩
  have HSE : Hid (∀ j, Calls Tryz.prog 49 #[.int .i64 n] (w.drewN j) fun e w' => e = .returned (.int .i64 (secN n.toNat : Int)) ∧ w' = w.drewN j) := Lib.hid fun j => (rsectors_any n (w.drewN j)).mono fun _ _ ⟨a, b⟩ => ⟨a, b.symm⟩
  have h2 := hG.p2
  have h3 := hG.room
  obtain ⟨y, hy⟩ : ∃ y, y = (G.places : Int) - (G.used : Int) := ⟨_, rfl⟩
  have e1 : IntKind.i64.wrap ((G.places : Int) - (G.used : Int)) = y := by rw [hy]; exact IntWalk.i64_in _ (by omega)
  unfold wfits
  rw [← hy]
  generalize ((secN n.toNat : Nat) : Int) = m at *
  generalize ((mostN ((G.places : Int) + 1) : Nat) : Int) = x at *
  clear h hG h2 h3 hy
  cases hb : G.broken
  · rw [hb, if_neg (by simp)] at HRD
    cases d1 : decide (1 ≤ n)
    · go_enter Tryz.func14, Tryz.ntmps14
      go_wp2_with fail
      go_quiet (first | exact Calls.quiet_of_same (HRD.out _) | exact Calls.quiet_of_same (HMO.out _) | exact Calls.quiet_of_same (HSE.out _))
      go_wp2
      go_ret
      exact ⟨by simp, below_drewN (Below.refl _ _) _⟩
    · cases d2 : decide (n ≤ x)
      · go_enter Tryz.func14, Tryz.ntmps14
        go_wp2_with fail
        go_quiet (first | exact Calls.quiet_of_same (HRD.out _) | exact Calls.quiet_of_same (HMO.out _) | exact Calls.quiet_of_same (HSE.out _))
        go_wp2
        go_ret
        exact ⟨by simp, below_drewN (Below.refl _ _) _⟩
      · cases d3 : decide (m ≤ y)
        all_goals go_enter Tryz.func14, Tryz.ntmps14
        all_goals go_wp2_with fail
        all_goals go_quiet (first | exact Calls.quiet_of_same (HRD.out _) | exact Calls.quiet_of_same (HMO.out _) | exact Calls.quiet_of_same (HSE.out _))
        all_goals go_wp2
        all_goals go_ret
        all_goals exact ⟨by simp, below_drewN (Below.refl _ _) _⟩
  · rw [hb, if_pos rfl] at HRD
    go_enter Tryz.func14, Tryz.ntmps14
    go_wp2_with fail
    go_quiet (first | exact Calls.quiet_of_same (HRD.out _) | exact Calls.quiet_of_same (HMO.out _) | exact Calls.quiet_of_same (HSE.out _))
    go_wp2
    go_ret
    exact ⟨by simp, below_drewN (Below.refl _ _) _⟩
theorem op_write {p : Nat} {D : Dsk} (hc : D.count ≤ 1000000) (node : Int) (ep : Nat) (pos : Int) (s : List UInt8) (hs : (s.length : Int) ≤ 281474976710656) :
    Turns (DP p D) (DP p (writeF D node ep pos s).2) 60 #[.pointer (some ⟨p, 0, none⟩), .int .i64 node, .int .u64 (ep : Int), .int .i64 pos, .string (str s)] (.returned (.int .i64 ((writeF D node ep pos s).1 : Int))) := by
  intro S w hS h
  refine (write_any p D node ep pos s w h hS hc hs).mono ?_
  rintro e w' ⟨rfl, hd, hm, -⟩
  exact ⟨rfl, hd, hm⟩
theorem op_barrier {p : Nat} {D : Dsk} (hc : D.count ≤ 1000000) (node : Int) (ep : Nat) : Turns (DP p D) (DP p (barF D node ep).2) 61 #[.pointer (some ⟨p, 0, none⟩), .int .i64 node, .int .u64 (ep : Int)] (.returned (.int .i64 ((barF D node ep).1 : Int))) := by
  intro S w _ h
  refine (barrier_any p D node ep w h hc).mono ?_
  rintro e w' ⟨rfl, hd, hm⟩
  exact ⟨rfl, hd, hm⟩
theorem lgput_any (d p k q : Nat) (G : Lg) (D : Dsk) (hc : D.count ≤ 1000000) (pos : Int) (s : List UInt8) (hs : (s.length : Int) ≤ 281474976710656) :
    Turns (LDP d p k q G D) (LDP d p k q (wput G D pos s).2.1 (wput G D pos s).2.2) 78 #[.pointer (some ⟨p, 0, none⟩), .int .i64 pos, .string (str s)] (.returned (.int .i64 ((wput G D pos s).1 : Int))) := by
  refine Turns.of_at fun S w0 hS h => ?_
  have hs0 := h.sits
  have c0 : w0.cell? ⟨p, 0, none⟩ = some (.pointer (some ⟨d, 0, none⟩)) := hs0.cell 0
  have c1 : w0.cell? ⟨p, 1, none⟩ = some (.int .i64 G.node) := hs0.cell 1
  have c2 : w0.cell? ⟨p, 2, none⟩ = some (.int .u64 (G.ep : Int)) := hs0.cell 2
  have HW := Lib.hid fun j => ((op_write hc (G.node : Int) G.ep pos s hs).left (holdD d D) (holdLP d p k q G)).at_ hS (h.down (holdLD d p k q G D) (below_drewN (Below.refl _ _) j))
  have HP : Hid (∀ r D', wput G D pos s = (r, { G with broken := decide (r ≠ 0) }, D') ↔ writeF D (G.node : Int) G.ep pos s = (r, D')) := Lib.hid fun r D' => by
    unfold wput
    constructor
    · intro e
      simp only [Prod.mk.injEq] at e
      exact Prod.ext e.1 e.2.2
    · intro e
      rw [e]
  obtain ⟨r, D', hr⟩ : ∃ r D', writeF D (G.node : Int) G.ep pos s = (r, D') := ⟨_, _, rfl⟩
  rw [(HP.out r D').2 hr]
  rw [hr] at HW
  clear HP hr hc hs hs0 h
  obtain ⟨b, hb⟩ : ∃ b, b = decide (r ≠ 0) := ⟨_, rfl⟩
  have e1 : ((r : Int) != 0) = b := by rw [hb]; by_cases h : r = 0 <;> simp [h]
  rw [← hb]
  clear hb
  go_enter Tryz.func78, Tryz.ntmps78
  go_wp2_with fail
  go_region_with (refine (HW.out 1).mono ?_; rintro e w1 ⟨rfl, hA⟩)
  all_goals have hs1 := At.sits hA
  all_goals have c5 : w1.cell? ⟨p, 5, none⟩ = some (.bool G.broken) := hs1.cell 5
  all_goals have f5 := hs1.warm 5
  all_goals have HF := Lib.hid (At.store (G' := { G with broken := b }) hA 5 (.bool b) rfl rfl rfl rfl)
  all_goals clear hs1 hA
  all_goals go_wp2
  all_goals go_ret
  all_goals exact ⟨rfl, HF.out⟩
theorem lgbar_any (d p k q : Nat) (G : Lg) (D : Dsk) (hc : D.count ≤ 1000000) :
    Turns (LDP d p k q G D) (LDP d p k q (wbar G D).2.1 (wbar G D).2.2) 46 #[.pointer (some ⟨p, 0, none⟩)] (.returned (.int .i64 ((wbar G D).1 : Int))) := by
  refine Turns.of_at fun S w0 hS h => ?_
  have hs0 := h.sits
  have c0 : w0.cell? ⟨p, 0, none⟩ = some (.pointer (some ⟨d, 0, none⟩)) := hs0.cell 0
  have c1 : w0.cell? ⟨p, 1, none⟩ = some (.int .i64 G.node) := hs0.cell 1
  have c2 : w0.cell? ⟨p, 2, none⟩ = some (.int .u64 (G.ep : Int)) := hs0.cell 2
  have HW := Lib.hid fun j => ((op_barrier hc (G.node : Int) G.ep).left (holdD d D) (holdLP d p k q G)).at_ hS (h.down (holdLD d p k q G D) (below_drewN (Below.refl _ _) j))
  obtain ⟨r, D', hr⟩ : ∃ r D', barF D (G.node : Int) G.ep = (r, D') := ⟨_, _, rfl⟩
  unfold wbar
  rw [hr] at HW ⊢
  simp only at HW ⊢
  clear hr hc hs0 h
  cases r with
  | zero =>
    simp only [ne_eq, not_true_eq_false, decide_false, if_true]
    go_enter Tryz.func46, Tryz.ntmps46
    go_wp2_with fail
    go_region_with (refine (HW.out 1).mono ?_; rintro e w1 ⟨rfl, hA⟩)
    all_goals have hs1 := At.sits hA
    all_goals have c5 : w1.cell? ⟨p, 5, none⟩ = some (.bool G.broken) := hs1.cell 5
    all_goals have f5 := hs1.warm 5
    all_goals have c8 : w1.cell? ⟨p, 8, none⟩ = some (.int .u64 (G.written : Int)) := hs1.cell 8
    all_goals have c9 : w1.cell? ⟨p, 9, none⟩ = some (.int .u64 (G.synced : Int)) := hs1.cell 9
    all_goals have f9 := hs1.warm 9
    all_goals have HF := Lib.hid (At.store (G' := { G with broken := false, synced := G.written }) (At.store (G' := { G with broken := false }) hA 5 (.bool false) rfl rfl rfl rfl) 9 (.int .u64 (G.written : Int)) rfl rfl rfl rfl)
    all_goals clear hs1 hA
    all_goals go_wp2
    all_goals go_ret
    all_goals exact ⟨rfl, HF.out⟩
  | succ r =>
    have hn : ¬ (r + 1 = 0) := by omega
    simp only [ne_eq, hn, not_false_eq_true, decide_true, if_false]
    have e1 : (((r + 1 : Nat) : Int) != 0) = true := by rw [bne_iff_ne]; omega
    have e2 : (((r + 1 : Nat) : Int) == 0) = false := by rw [beq_eq_false_iff_ne]; omega
    generalize r + 1 = r at *
    go_enter Tryz.func46, Tryz.ntmps46
    go_wp2_with fail
    go_region_with (refine (HW.out 1).mono ?_; rintro e w1 ⟨rfl, hA⟩)
    all_goals have hs1 := At.sits hA
    all_goals have c5 : w1.cell? ⟨p, 5, none⟩ = some (.bool G.broken) := hs1.cell 5
    all_goals have f5 := hs1.warm 5
    all_goals have HF := Lib.hid (At.store (G' := { G with broken := true }) hA 5 (.bool true) rfl rfl rfl rfl)
    all_goals clear hs1 hA
    all_goals go_wp2
    all_goals go_ret
    all_goals exact ⟨rfl, HF.out⟩
end Go.Proofs.YtlaclbcckadmkaaGreat
