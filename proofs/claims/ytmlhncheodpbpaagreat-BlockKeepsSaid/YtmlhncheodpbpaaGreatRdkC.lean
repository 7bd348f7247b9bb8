/- The document's own disk (commonsref8): Barrier, Admit, Fence, where it is not armed. -/
import Derived.Test.YtmlhncheodpbpaaGreatRdkB
namespace Go.Proofs.YtmlhncheodpbpaaGreat
open Go Go.RowKit DskP RdkP
set_option maxRecDepth 100000
set_option maxHeartbeats 1000000
set_option linter.unusedSimpArgs false

theorem rbar_any (p : Nat) (R : Rdk) (node : Int) (e : Nat) (ha : R.armed = false) : Turns (fun S w => RAt S w p R) (fun S w => RAt S w p (rbarF R node e).2) 39 #[.pointer (some ⟨p, 0, none⟩), .int .i64 node, .int .u64 (e : Int)] (.returned (.int .i64 ((rbarF R node e).1 : Int))) := by
  intro S w hS h
  have hM : ∀ W : World, W = w → Calls Tryz.prog 76 #[.pointer (some ⟨p, 0, none⟩), .int .i64 node, .int .u64 (e : Int)] W fun x w' => x = .returned (.int .i64 (mayF R node e : Int)) ∧ W = w' := fun W hW => rmay_any p R node e W (hW ▸ h)
  unfold rbarF
  by_cases h0 : mayF R node e = 0
  · rw [if_pos h0]
    rw [h0] at hM
    have HM := Lib.hid hM
    have HS := Lib.hid (rspend_off p R w h ha)
    have HK := Lib.hid (rkeep_any p R node S w hS h)
    clear hM h hS ha h0
    go_enter Tryz.func39, Tryz.ntmps39
    go_wp2_with fail
    refine (HM.out _ rfl).mono ?_
    rintro e w' ⟨rfl, rfl⟩
    go_wp2_with fail
    refine HS.out.mono ?_
    rintro e w' ⟨rfl, rfl⟩
    go_wp2_with fail
    refine HK.out.mono ?_
    rintro e w' ⟨rfl, hk⟩
    have HF := Lib.hid hk
    clear hk
    go_wp2
    go_ret
    exact ⟨rfl, HF.out⟩
  · rw [if_neg h0]
    obtain ⟨m, hm⟩ : ∃ m, m = mayF R node e := ⟨_, rfl⟩
    rw [← hm] at hM h0 ⊢
    have d1 : ((m : Int) == 0) = false := by rw [beq_eq_false_iff_ne]; omega
    have HM := Lib.hid hM
    have HF := Lib.hid (And.intro h (Many.refl S w))
    clear hM h hS ha h0 hm
    go_enter Tryz.func39, Tryz.ntmps39
    go_wp2_with fail
    refine (HM.out _ rfl).mono ?_
    rintro e w' ⟨rfl, rfl⟩
    go_wp2
    go_ret
    exact ⟨rfl, HF.out⟩
theorem node_nat {node : Int} (h : nodeB node = true) : ∃ n : Nat, node = (n : Int) ∧ n ≤ 16 := by
  unfold nodeB at h
  simp only [Bool.and_eq_true, decide_eq_true_eq] at h
  exact ⟨node.toNat, by omega, by omega⟩
theorem radm_any (p : Nat) (R : Rdk) (node : Int) (e : Nat) (ha : R.armed = false) : Turns (fun S w => RAt S w p R) (fun S w => RAt S w p (radmF R node e).2) 37 #[.pointer (some ⟨p, 0, none⟩), .int .i64 node, .int .u64 (e : Int)] (.returned (.int .i64 ((radmF R node e).1 : Int))) := by
  intro S w hS h
  obtain ⟨lv, kv, h1, -⟩ := h.mem
  have hc := rcells_of h1
  have c2 := hc.off
  have c37 := hc.last
  have HN := Lib.hid (rnode_any node)
  unfold radmF
  cases hoff : R.off
  · rw [hoff] at c2
    rw [if_neg (by simp)]
    cases hn : nodeB node
    · rw [hn] at HN
      rw [if_pos rfl]
      have HF := Lib.hid (And.intro h (Many.refl S w))
      clear h hS ha h1 hc hoff hn
      go_enter Tryz.func37, Tryz.ntmps37
      go_wp2_with (go_at_call 74; refine (HN.out _).mono ?_; rintro e w' ⟨rfl, rfl⟩)
      go_ret
      exact ⟨rfl, HF.out⟩
    · rw [hn] at HN
      rw [if_neg (by simp)]
      obtain ⟨k, rfl, hk⟩ := node_nat hn
      rw [Int.toNat_natCast]
      have HS := Lib.hid (rspend_off p R w h ha)
      by_cases he : e ≤ R.last
      · rw [if_pos he]
        have d1 : decide ((e : Int) ≤ (R.last : Int)) = true := decide_eq_true (by omega)
        have d2 : decide (e ≤ R.last) = true := decide_eq_true he
        have HF := Lib.hid (And.intro h (Many.refl S w))
        clear h hS ha h1 hc hoff hn he
        go_enter Tryz.func37, Tryz.ntmps37
        go_wp2_with (go_at_call 74; refine (HN.out _).mono ?_; rintro e w' ⟨rfl, rfl⟩)
        go_ret
        exact ⟨rfl, HF.out⟩
      · rw [if_neg he]
        have d1 : decide ((e : Int) ≤ (R.last : Int)) = false := decide_eq_false (by omega)
        have d2 : decide (e ≤ R.last) = false := decide_eq_false he
        have hg := h.good
        have hfin : RAt S ((w.setCell ⟨p, 3 + k, none⟩ (.int .u64 (e : Int))).setCell ⟨p, 37, none⟩ (.int .u64 (e : Int))) p { R with ep := setAt R.ep k e, last := e } :=
          (h.put (R' := { R with ep := setAt R.ep k e }) (3 + k) (.int .u64 (e : Int)) ⟨hg.sec, hg.small, hg.many⟩ (fun lv kv => rdl_set_ep R lv kv k e (by omega)) rfl rfl).put 37 (.int .u64 (e : Int)) ⟨hg.sec, hg.small, hg.many⟩ (fun lv kv => rdl_last _ lv kv e) rfl rfl
        have hm : Many S w ((w.setCell ⟨p, 3 + k, none⟩ (.int .u64 (e : Int))).setCell ⟨p, 37, none⟩ (.int .u64 (e : Int))) := ((Many.refl S w).store h.mine _ _).store h.mine _ _
        rw [hoff] at hfin
        have HF := Lib.hid (And.intro hfin hm)
        have ce := hc.ep k (by omega)
        have fe := hc.warm (3 + k)
        have f37 := hc.warm 37
        have hk17 : k < 17 := by omega
        clear h hS ha h1 hc hoff hn he hg hfin hm
        go_enter Tryz.func37, Tryz.ntmps37
        go_wp2_with (first
          | (go_at_call 74; refine (HN.out _).mono ?_; rintro e w' ⟨rfl, rfl⟩)
          | (go_at_call 75; refine HS.out.mono ?_; rintro e w' ⟨rfl, rfl⟩))
        go_ret
        exact ⟨rfl, HF.out⟩
  · rw [hoff] at c2
    rw [if_pos rfl]
    have HF := Lib.hid (And.intro h (Many.refl S w))
    clear h hS ha h1 hc hoff HN
    go_enter Tryz.func37, Tryz.ntmps37
    go_wp2
    go_ret
    exact ⟨rfl, HF.out⟩
theorem rfen_any (p : Nat) (R : Rdk) (node : Int) (ha : R.armed = false) : Turns (fun S w => RAt S w p R) (fun S w => RAt S w p (rfenF R node).2) 40 #[.pointer (some ⟨p, 0, none⟩), .int .i64 node] (.returned (.int .i64 ((rfenF R node).1 : Int))) := by
  intro S w hS h
  obtain ⟨lv, kv, h1, -⟩ := h.mem
  have hc := rcells_of h1
  have c2 := hc.off
  have HN := Lib.hid (rnode_any node)
  unfold rfenF
  cases hoff : R.off
  · rw [hoff] at c2
    rw [if_neg (by simp)]
    cases hn : nodeB node
    · rw [hn] at HN
      rw [if_pos rfl]
      have HF := Lib.hid (And.intro h (Many.refl S w))
      clear h hS ha h1 hc hoff hn
      go_enter Tryz.func40, Tryz.ntmps40
      go_wp2_with (go_at_call 74; refine (HN.out _).mono ?_; rintro e w' ⟨rfl, rfl⟩)
      go_ret
      exact ⟨rfl, HF.out⟩
    · rw [hn] at HN
      rw [if_neg (by simp)]
      obtain ⟨k, rfl, hk⟩ := node_nat hn
      rw [Int.toNat_natCast]
      have HS := Lib.hid (rspend_off p R w h ha)
      have HK := Lib.hid (rkeep_any p R (k : Int) S w hS h)
      clear h hS ha h1 hc hoff hn
      go_enter Tryz.func40, Tryz.ntmps40
      go_wp2_with (first
        | (go_at_call 74; refine (HN.out _).mono ?_; rintro e w' ⟨rfl, rfl⟩)
        | (go_at_call 75; refine HS.out.mono ?_; rintro e w' ⟨rfl, rfl⟩)
        | fail)
      refine HK.out.mono ?_
      rintro e w1 ⟨rfl, hr, hm⟩
      obtain ⟨lv1, kv1, k1, -⟩ := hr.mem
      have hc := rcells_of k1
      have ce : w1.cell? ⟨p, 3 + k, none⟩ = some (.int .u64 (R.ep k : Int)) := hc.ep k (by omega)
      have fe := hc.warm (3 + k)
      have hk17 : k < 17 := by omega
      have hg := hr.good
      have hfin : RAt S (w1.setCell ⟨p, 3 + k, none⟩ (.int .u64 ((0 : Nat) : Int))) p { keepR R (k : Int) with ep := setAt R.ep k 0 } := hr.put (3 + k) (.int .u64 ((0 : Nat) : Int)) ⟨hg.sec, hg.small, hg.many⟩ (fun lv kv => rdl_set_ep (keepR R (k : Int)) lv kv k 0 (by omega)) rfl rfl
      have HF := Lib.hid (And.intro hfin (hm.store hr.mine (3 + k) (.int .u64 ((0 : Nat) : Int))))
      clear hr hm k1 hc hg hfin
      go_wp2
      go_ret
      exact ⟨rfl, HF.out⟩
  · rw [hoff] at c2
    rw [if_pos rfl]
    have HF := Lib.hid (And.intro h (Many.refl S w))
    clear h hS ha h1 hc hoff HN
    go_enter Tryz.func40, Tryz.ntmps40
    go_wp2
    go_ret
    exact ⟨rfl, HF.out⟩
end Go.Proofs.YtmlhncheodpbpaaGreat
