/- Package sdisk: admits, has, powerGoes, Restore, Epoch, Word, Put, Admit, Fence, Barrier. Package sdisk: New, Read; chapter 8's fill. Package sdisk: Read. -/
import Derived.Test.YtlaclbcckadmkaaGreatGB
import Derived.Laws.MakeOwn
namespace Go.Proofs.YtlaclbcckadmkaaGreat
open Go Go.RowKit DskP
set_option maxRecDepth 100000
set_option maxHeartbeats 1000000
set_option linter.unusedSimpArgs false

theorem admits_any {S : Nat → Prop} (p : Nat) (D : Dsk) (node e : Nat) (hn : node ≤ 16) (w : World) (h : DiskAt S w p D) : Calls Tryz.prog 101 #[.pointer (some ⟨p, 0, none⟩), .int .i64 (node : Int), .int .u64 (e : Int)] w fun x w' => x = .returned (.bool (admitsB D node e)) ∧ w = w' := by
  obtain ⟨pv, wv, kv, k1, -⟩ := h.mem
  have c0 := (cells_of k1).ep node (by omega)
  have d1 : decide (node < 17) = true := decide_eq_true (by omega)
  unfold admitsB
  generalize D.ep node = r at c0
  clear k1 h
  by_cases h0 : e = 0
  · subst h0
    go_enter Tryz.func101, Tryz.ntmps101
    go_wp2
    go_ret
    exact ⟨by simp, rfl⟩
  · have e0 : ((e : Int) == 0) = false := by rw [beq_eq_false_iff_ne]; omega
    have e1 : ((e : Int) != 0) = true := by simp [bne, e0]
    have HZ := Lib.hid h0
    clear h0
    by_cases h1 : e = r
    · subst h1
      go_enter Tryz.func101, Tryz.ntmps101
      go_wp2
      go_ret
      exact ⟨by simp [HZ.out], rfl⟩
    · have e2 : ((e : Int) == (r : Int)) = false := by rw [beq_eq_false_iff_ne]; omega
      have HZ2 := Lib.hid h1
      clear h1
      go_enter Tryz.func101, Tryz.ntmps101
      go_wp2
      go_ret
      exact ⟨by simp [HZ.out, HZ2.out], rfl⟩
theorem dhas_any {S : Nat → Prop} (p : Nat) (D : Dsk) (pos : Int) (n : Nat) (hn : n ≤ 1000000) (w : World) (h : DiskAt S w p D) : Calls Tryz.prog 102 #[.pointer (some ⟨p, 0, none⟩), .int .i64 pos, .int .i64 (n : Int)] w fun x w' => x = .returned (.bool (hasB D pos n)) ∧ w = w' := by
  obtain ⟨pv, wv, kv, k1, k2, -⟩ := h.mem
  obtain ⟨A, cap, rfl, -⟩ := k2.form
  have c1 := (k1.cell 1).trans (show (dl D (.slice A D.n cap) wv kv).toArray[1]? = some (.slice A D.n cap) from rfl)
  have hsm := h.good.small
  have e1 : IntKind.i64.wrap ((D.n : Int) - (n : Int)) = (D.n : Int) - (n : Int) := IntWalk.i64_in _ (by omega)
  unfold hasB
  generalize D.n = m at *
  clear k1 k2 h
  by_cases h0 : 0 ≤ pos
  · have d0 : decide (0 ≤ pos) = true := decide_eq_true h0
    rw [d0, Bool.true_and, show decide (pos + (n : Int) ≤ (m : Int)) = decide (pos ≤ (m : Int) - (n : Int)) by rw [decide_eq_decide]; omega]
    go_enter Tryz.func102, Tryz.ntmps102
    go_wp2
    go_ret
    exact ⟨rfl, rfl⟩
  · have d0 : decide (0 ≤ pos) = false := decide_eq_false h0
    rw [d0, Bool.false_and]
    go_enter Tryz.func102, Tryz.ntmps102
    go_wp2
    go_ret
    exact ⟨rfl, rfl⟩
theorem goes_any {S : Nat → Prop} (p : Nat) (D : Dsk) (w : World) (h : DiskAt S w p D) (hc : D.count ≤ 1000000000) : Calls Tryz.prog 67 #[.pointer (some ⟨p, 0, none⟩)] w fun e w' => e = .returned (.bool (goesB D)) ∧ DiskAt S w' p (goesD D) ∧ Many S w w' := by
  have hl : D.left ≤ 9223372036854775807 := h.good.lim
  obtain ⟨pv, wv, kv, k1, -, -, k4, k5⟩ := h.mem
  have c9 := (cells_of k1).armed
  have c10 := (cells_of k1).left
  have c11 := (k1.cell 41).trans (show (dl D pv wv kv).toArray[41]? = some (if D.armed = true then kv else .slice none 0 0) from rfl)
  have f10 := k1.warm 40
  have HH := Lib.hid h
  unfold goesB goesD
  cases ha : D.armed with
  | false =>
    rw [ha] at c9
    clear k1 k4 k5 h ha
    go_enter Tryz.func67, Tryz.ntmps67
    go_wp2
    go_ret
    exact ⟨rfl, HH.out, Many.refl _ _⟩
  | true =>
    rw [ha] at c9
    rw [ha, if_pos rfl] at c11
    simp only [Bool.true_and, if_true]
    by_cases h0 : 0 < D.left
    · rw [if_pos h0, show decide (D.left = 0) = false from decide_eq_false (by omega)]
      have d0 : decide (0 < D.left) = true := decide_eq_true h0
      have e1 : IntKind.i64.wrap ((D.left : Int) - 1) = ((D.left - 1 : Nat) : Int) := by rw [IntWalk.i64_in _ (by omega)]; omega
      have HP := HH.out.put (D' := { D with left := D.left - 1 }) 40 (.int .i64 ((D.left - 1 : Nat) : Int)) ⟨HH.out.good.sec, HH.out.good.wait, HH.out.good.many, HH.out.good.small, HH.out.good.klen, by have := HH.out.good.lim; simp only; omega⟩ (fun pv wv kv => dl_left D pv wv kv _) rfl rfl rfl rfl
      have HQ := Lib.hid HP
      rw [ha] at HQ
      clear k1 k4 k5 h ha h0 HP
      go_enter Tryz.func67, Tryz.ntmps67
      go_wp2
      go_ret
      exact ⟨rfl, HQ.out, (Many.refl _ _).store HH.out.mine 40 _⟩
    · rw [if_neg h0, show decide (D.left = 0) = true from decide_eq_true (by omega)]
      have d0 : decide (0 < D.left) = false := decide_eq_false h0
      have hk : ∀ w', Many (PlBlk S w) w w' → Ints w' kv D.keep := fun w' hm => RowAt.slice (f := fun x : Int => Value.int .i64 x) (k4.keep fun k e => by
        obtain ⟨cur, hcur⟩ := k4.sits k e
        refine hm.block k hcur.lt fun hb => ?_
        obtain ⟨_, cur2, hc2⟩ := hb
        exact absurd rfl (hcur.apart hc2 (by decide)))
      have HK := Lib.hid hk
      clear k1 k4 k5 h ha h0 hk
      go_enter Tryz.func67, Tryz.ntmps67
      go_wp2_with fail
      refine (cut_any p D kv D.keep w HH.out hc HK.out).mono ?_
      rintro e w1 ⟨rfl, hD, hM⟩
      have HE := Lib.hid (And.intro hD hM)
      clear hD hM
      go_wp2
      go_ret
      exact ⟨rfl, HE.out⟩
theorem nodeB_nat {node : Int} (h : nodeB node = true) : ∃ n : Nat, node = (n : Int) ∧ n ≤ 16 := by
  unfold nodeB at h
  simp only [Bool.and_eq_true, decide_eq_true_eq] at h
  obtain ⟨n, rfl⟩ := Int.eq_ofNat_of_zero_le h.1
  exact ⟨n, rfl, by omega⟩
theorem barrier_nil (node : Int) (ep : Nat) (w : World) : Calls Tryz.prog 61 #[.pointer none, .int .i64 node, .int .u64 (ep : Int)] w fun x w' => x = .returned (.int .i64 14) ∧ w = w' := by
  go_enter Tryz.func61, Tryz.ntmps61
  go_wp2_with fail
  refine (on_nil w).mono ?_
  rintro e w1 ⟨rfl, rfl⟩
  go_wp2
  go_ret
  exact ⟨rfl, rfl⟩
theorem barrier_any {S : Nat → Prop} (p : Nat) (D : Dsk) (node : Int) (ep : Nat) (w : World) (h : DiskAt S w p D) (hc : D.count ≤ 1000000) : Calls Tryz.prog 61 #[.pointer (some ⟨p, 0, none⟩), .int .i64 node, .int .u64 (ep : Int)] w fun x w' => x = .returned (.int .i64 ((barF D node ep).1 : Int)) ∧ DiskAt S w' p (barF D node ep).2 ∧ Many S w w' := by
  have hon := on_any p D w h
  have hin := fun W => isnode_any node W
  have hgo := goes_any p D w h (by omega)
  have HH := Lib.hid h
  unfold barF
  cases ho : D.on with
  | false =>
    rw [ho] at hon
    clear h ho
    go_enter Tryz.func61, Tryz.ntmps61
    go_wp2_with fail
    refine hon.mono ?_
    rintro e w1 ⟨rfl, rfl⟩
    go_wp2
    go_ret
    exact ⟨rfl, HH.out, Many.refl _ _⟩
  | true =>
    rw [ho] at hon
    rw [if_neg (by simp)]
    clear ho
    cases hb : nodeB node with
    | false =>
      rw [hb] at hin
      clear h hb
      go_enter Tryz.func61, Tryz.ntmps61
      go_wp2_with fail
      refine hon.mono ?_
      rintro e w1 ⟨rfl, rfl⟩
      go_wp2_with fail
      refine (hin _).mono ?_
      rintro e w1 ⟨rfl, rfl⟩
      go_wp2
      go_ret
      exact ⟨rfl, HH.out, Many.refl _ _⟩
    | true =>
      obtain ⟨n, rfl, hn⟩ := nodeB_nat hb
      rw [hb] at hin
      rw [if_neg (by simp)]
      clear hb
      rw [Int.toNat_natCast]
      have had := admits_any p D n ep hn w h
      cases ha : admitsB D n ep with
      | false =>
        rw [ha] at had
        clear h ha
        go_enter Tryz.func61, Tryz.ntmps61
        go_wp2_with fail
        refine hon.mono ?_
        rintro e w1 ⟨rfl, rfl⟩
        go_wp2_with fail
        refine (hin _).mono ?_
        rintro e w1 ⟨rfl, rfl⟩
        go_wp2_with fail
        refine had.mono ?_
        rintro e w1 ⟨rfl, rfl⟩
        go_wp2
        go_ret
        exact ⟨rfl, HH.out, Many.refl _ _⟩
      | true =>
        rw [ha] at had
        rw [if_neg (by simp)]
        clear ha
        cases hg : goesB D with
        | true =>
          rw [hg] at hgo
          clear h hg
          go_enter Tryz.func61, Tryz.ntmps61
          go_wp2_with fail
          refine hon.mono ?_
          rintro e w1 ⟨rfl, rfl⟩
          go_wp2_with fail
          refine (hin _).mono ?_
          rintro e w1 ⟨rfl, rfl⟩
          go_wp2_with fail
          refine had.mono ?_
          rintro e w1 ⟨rfl, rfl⟩
          go_wp2_with fail
          refine hgo.mono ?_
          rintro e w1 ⟨rfl, hD, hM⟩
          have HE := Lib.hid (And.intro hD hM)
          clear hD hM
          go_wp2
          go_ret
          exact ⟨rfl, HE.out⟩
        | false =>
          rw [hg] at hgo
          clear h hg
          go_enter Tryz.func61, Tryz.ntmps61
          go_wp2_with fail
          refine hon.mono ?_
          rintro e w1 ⟨rfl, rfl⟩
          go_wp2_with fail
          refine (hin _).mono ?_
          rintro e w1 ⟨rfl, rfl⟩
          go_wp2_with fail
          refine had.mono ?_
          rintro e w1 ⟨rfl, rfl⟩
          go_wp2_with fail
          refine hgo.mono ?_
          rintro e w1 ⟨rfl, hD, hM⟩
          have HE := Lib.hid (And.intro hD hM)
          clear hD hM
          go_wp2_with fail
          refine (settle_any p (goesD D) n w1 HE.out.1 (by rw [goesD_count]; omega)).mono ?_
          rintro e w2 ⟨rfl, hD2, hM2⟩
          have HE2 := Lib.hid (And.intro hD2 (HE.out.2.trans hM2))
          clear hD2 hM2
          go_wp2
          go_ret
          exact ⟨rfl, HE2.out⟩
theorem fence_nil (node : Int) (w : World) : Calls Tryz.prog 62 #[.pointer none, .int .i64 node] w fun x w' => x = .returned (.int .i64 14) ∧ w = w' := by
  go_enter Tryz.func62, Tryz.ntmps62
  go_wp2_with fail
  refine (on_nil w).mono ?_
  rintro e w1 ⟨rfl, rfl⟩
  go_wp2
  go_ret
  exact ⟨rfl, rfl⟩
theorem fence_any {S : Nat → Prop} (p : Nat) (D : Dsk) (node : Int) (w : World) (h : DiskAt S w p D) (hc : D.count ≤ 1000000) : Calls Tryz.prog 62 #[.pointer (some ⟨p, 0, none⟩), .int .i64 node] w fun x w' => x = .returned (.int .i64 ((fenF D node).1 : Int)) ∧ DiskAt S w' p (fenF D node).2 ∧ Many S w w' := by
  have hon := on_any p D w h
  have hin := fun W => isnode_any node W
  have hgo := goes_any p D w h (by omega)
  have HH := Lib.hid h
  unfold fenF
  cases ho : D.on with
  | false =>
    rw [ho] at hon
    clear h ho
    go_enter Tryz.func62, Tryz.ntmps62
    go_wp2_with fail
    refine hon.mono ?_
    rintro e w1 ⟨rfl, rfl⟩
    go_wp2
    go_ret
    exact ⟨rfl, HH.out, Many.refl _ _⟩
  | true =>
    rw [ho] at hon
    rw [if_neg (by simp)]
    clear ho
    cases hb : nodeB node with
    | false =>
      rw [hb] at hin
      clear h hb
      go_enter Tryz.func62, Tryz.ntmps62
      go_wp2_with fail
      refine hon.mono ?_
      rintro e w1 ⟨rfl, rfl⟩
      go_wp2_with fail
      refine (hin _).mono ?_
      rintro e w1 ⟨rfl, rfl⟩
      go_wp2
      go_ret
      exact ⟨rfl, HH.out, Many.refl _ _⟩
    | true =>
      obtain ⟨n, rfl, hn⟩ := nodeB_nat hb
      rw [hb] at hin
      rw [if_neg (by simp)]
      clear hb
      rw [Int.toNat_natCast]
      cases hg : goesB D with
      | true =>
        rw [hg] at hgo
        clear h hg
        go_enter Tryz.func62, Tryz.ntmps62
        go_wp2_with fail
        refine hon.mono ?_
        rintro e w1 ⟨rfl, rfl⟩
        go_wp2_with fail
        refine (hin _).mono ?_
        rintro e w1 ⟨rfl, rfl⟩
        go_wp2_with fail
        refine hgo.mono ?_
        rintro e w1 ⟨rfl, hD, hM⟩
        have HE := Lib.hid (And.intro hD hM)
        clear hD hM
        go_wp2
        go_ret
        exact ⟨rfl, HE.out⟩
      | false =>
        rw [hg] at hgo
        clear h hg
        go_enter Tryz.func62, Tryz.ntmps62
        go_wp2_with fail
        refine hon.mono ?_
        rintro e w1 ⟨rfl, rfl⟩
        go_wp2_with fail
        refine (hin _).mono ?_
        rintro e w1 ⟨rfl, rfl⟩
        go_wp2_with fail
        refine hgo.mono ?_
        rintro e w1 ⟨rfl, hD, hM⟩
        have HE := Lib.hid (And.intro hD hM)
        clear hD hM
        go_wp2_with fail
        refine (settle_any p (goesD D) n w1 HE.out.1 (by rw [goesD_count]; omega)).mono ?_
        rintro e w2 ⟨rfl, hD2, hM2⟩
        have HE2 := Lib.hid (And.intro hD2 (HE.out.2.trans hM2))
        clear hD2 hM2
        obtain ⟨pv, wv, kv, k1, -⟩ := HE2.out.1.mem
        have c0 := (cells_of k1).ep n (by omega)
        have f0 := k1.warm (4 + n)
        have d17 : decide (n < 17) = true := decide_eq_true (by omega)
        clear k1
        have hP := HE2.out.1.put (D' := { settleD (goesD D) n with ep := setAt (goesD D).ep n 0 }) (4 + n) (.int .u64 0) ⟨HE2.out.1.good.sec, HE2.out.1.good.wait, HE2.out.1.good.many, HE2.out.1.good.small, HE2.out.1.good.klen, HE2.out.1.good.lim⟩ (fun pv wv kv => dl_set_ep (settleD (goesD D) n) pv wv kv n 0 (by omega)) rfl rfl rfl rfl
        have HP := Lib.hid hP
        clear hP
        go_wp2
        go_ret
        exact ⟨rfl, HP.out, HE2.out.2.store HE2.out.1.mine _ _⟩
theorem dput_nil (node : Int) (wx : Nat) (w : World) : Calls Tryz.prog 99 #[.pointer none, .int .i64 node, .int .u64 (wx : Int)] w fun x w' => x = .returned (.int .i64 14) ∧ w = w' := by
  go_enter Tryz.func99, Tryz.ntmps99
  go_wp2_with fail
  refine (on_nil w).mono ?_
  rintro e w1 ⟨rfl, rfl⟩
  go_wp2
  go_ret
  exact ⟨rfl, rfl⟩
theorem dput_any {S : Nat → Prop} (p : Nat) (D : Dsk) (node : Int) (wx : Nat) (w : World) (h : DiskAt S w p D) (hc : D.count ≤ 1000000) : Calls Tryz.prog 99 #[.pointer (some ⟨p, 0, none⟩), .int .i64 node, .int .u64 (wx : Int)] w fun x w' => x = .returned (.int .i64 ((putF D node wx).1 : Int)) ∧ DiskAt S w' p (putF D node wx).2 ∧ Many S w w' := by
  have hon := on_any p D w h
  have hin := fun W => isnode_any node W
  have hgo := goes_any p D w h (by omega)
  have HH := Lib.hid h
  unfold putF
  cases ho : D.on with
  | false =>
    rw [ho] at hon
    clear h ho
    go_enter Tryz.func99, Tryz.ntmps99
    go_wp2_with fail
    refine hon.mono ?_
    rintro e w1 ⟨rfl, rfl⟩
    go_wp2
    go_ret
    exact ⟨rfl, HH.out, Many.refl _ _⟩
  | true =>
    rw [ho] at hon
    rw [if_neg (by simp)]
    clear ho
    cases hb : nodeB node with
    | false =>
      rw [hb] at hin
      clear h hb
      go_enter Tryz.func99, Tryz.ntmps99
      go_wp2_with fail
      refine hon.mono ?_
      rintro e w1 ⟨rfl, rfl⟩
      go_wp2_with fail
      refine (hin _).mono ?_
      rintro e w1 ⟨rfl, rfl⟩
      go_wp2
      go_ret
      exact ⟨rfl, HH.out, Many.refl _ _⟩
    | true =>
      obtain ⟨n, rfl, hn⟩ := nodeB_nat hb
      rw [hb] at hin
      rw [if_neg (by simp)]
      clear hb
      rw [Int.toNat_natCast]
      cases hg : goesB D with
      | true =>
        rw [hg] at hgo
        clear h hg
        go_enter Tryz.func99, Tryz.ntmps99
        go_wp2_with fail
        refine hon.mono ?_
        rintro e w1 ⟨rfl, rfl⟩
        go_wp2_with fail
        refine (hin _).mono ?_
        rintro e w1 ⟨rfl, rfl⟩
        go_wp2_with fail
        refine hgo.mono ?_
        rintro e w1 ⟨rfl, hD, hM⟩
        have HE := Lib.hid (And.intro hD hM)
        clear hD hM
        go_wp2
        go_ret
        exact ⟨rfl, HE.out⟩
      | false =>
        rw [hg] at hgo
        clear h hg
        go_enter Tryz.func99, Tryz.ntmps99
        go_wp2_with fail
        refine hon.mono ?_
        rintro e w1 ⟨rfl, rfl⟩
        go_wp2_with fail
        refine (hin _).mono ?_
        rintro e w1 ⟨rfl, rfl⟩
        go_wp2_with fail
        refine hgo.mono ?_
        rintro e w1 ⟨rfl, hD, hM⟩
        have HE2 := Lib.hid (And.intro hD hM)
        clear hD hM
        obtain ⟨pv, wv, kv, k1, -⟩ := HE2.out.1.mem
        have c0 := (cells_of k1).wd n (by omega)
        have f0 := k1.warm (21 + n)
        have d17 : decide (n < 17) = true := decide_eq_true (by omega)
        clear k1
        have hP := HE2.out.1.put (D' := { goesD D with wd := setAt (goesD D).wd n wx }) (21 + n) (.int .u64 (wx : Int)) ⟨HE2.out.1.good.sec, HE2.out.1.good.wait, HE2.out.1.good.many, HE2.out.1.good.small, HE2.out.1.good.klen, HE2.out.1.good.lim⟩ (fun pv wv kv => dl_set_wd (goesD D) pv wv kv n wx (by omega)) rfl rfl rfl rfl
        have HP := Lib.hid hP
        clear hP
        go_wp2
        go_ret
        exact ⟨rfl, HP.out, HE2.out.2.store HE2.out.1.mine _ _⟩
theorem admit_nil (node : Int) (ep : Nat) (w : World) : Calls Tryz.prog 29 #[.pointer none, .int .i64 node, .int .u64 (ep : Int)] w fun x w' => x = .returned (.int .i64 14) ∧ w = w' := by
  go_enter Tryz.func29, Tryz.ntmps29
  go_wp2_with fail
  refine (on_nil w).mono ?_
  rintro e w1 ⟨rfl, rfl⟩
  go_wp2
  go_ret
  exact ⟨rfl, rfl⟩
theorem admit_any {S : Nat → Prop} (p : Nat) (D : Dsk) (node : Int) (ep : Nat) (w : World) (h : DiskAt S w p D) (hc : D.count ≤ 1000000) : Calls Tryz.prog 29 #[.pointer (some ⟨p, 0, none⟩), .int .i64 node, .int .u64 (ep : Int)] w fun x w' => x = .returned (.int .i64 ((admF D node ep).1 : Int)) ∧ DiskAt S w' p (admF D node ep).2 ∧ Many S w w' := by
  have hon := on_any p D w h
  have hin := fun W => isnode_any node W
  have hgo := goes_any p D w h (by omega)
  have HH := Lib.hid h
  unfold admF
  cases ho : D.on with
  | false =>
    rw [ho] at hon
    clear h ho
    go_enter Tryz.func29, Tryz.ntmps29
    go_wp2_with fail
    refine hon.mono ?_
    rintro e w1 ⟨rfl, rfl⟩
    go_wp2
    go_ret
    exact ⟨rfl, HH.out, Many.refl _ _⟩
  | true =>
    rw [ho] at hon
    rw [if_neg (by simp)]
    clear ho
    cases hb : nodeB node with
    | false =>
      rw [hb] at hin
      clear h hb
      go_enter Tryz.func29, Tryz.ntmps29
      go_wp2_with fail
      refine hon.mono ?_
      rintro e w1 ⟨rfl, rfl⟩
      go_wp2_with fail
      refine (hin _).mono ?_
      rintro e w1 ⟨rfl, rfl⟩
      go_wp2
      go_ret
      exact ⟨rfl, HH.out, Many.refl _ _⟩
    | true =>
      obtain ⟨n, rfl, hn⟩ := nodeB_nat hb
      rw [hb] at hin
      rw [if_neg (by simp)]
      clear hb
      rw [Int.toNat_natCast]
      obtain ⟨pv, wv, kv, k1, -⟩ := h.mem
      have cl := (cells_of k1).last
      clear k1
      by_cases hle : ep ≤ D.last
      · rw [if_pos hle]
        have dl1 : decide (ep ≤ D.last) = true := decide_eq_true hle
        clear h hle
        go_enter Tryz.func29, Tryz.ntmps29
        go_wp2_with fail
        refine hon.mono ?_
        rintro e w1 ⟨rfl, rfl⟩
        go_wp2_with fail
        refine (hin _).mono ?_
        rintro e w1 ⟨rfl, rfl⟩
        go_wp2
        go_ret
        exact ⟨rfl, HH.out, Many.refl _ _⟩
      · rw [if_neg hle]
        have dl1 : decide (ep ≤ D.last) = false := decide_eq_false hle
        clear hle
        cases hg : goesB D with
        | true =>
          rw [hg] at hgo
          clear h hg
          go_enter Tryz.func29, Tryz.ntmps29
          go_wp2_with fail
          refine hon.mono ?_
          rintro e w1 ⟨rfl, rfl⟩
          go_wp2_with fail
          refine (hin _).mono ?_
          rintro e w1 ⟨rfl, rfl⟩
          go_wp2_with fail
          refine hgo.mono ?_
          rintro e w1 ⟨rfl, hD, hM⟩
          have HE := Lib.hid (And.intro hD hM)
          clear hD hM
          go_wp2
          go_ret
          exact ⟨rfl, HE.out⟩
        | false =>
          rw [hg] at hgo
          clear h hg
          go_enter Tryz.func29, Tryz.ntmps29
          go_wp2_with fail
          refine hon.mono ?_
          rintro e w1 ⟨rfl, rfl⟩
          go_wp2_with fail
          refine (hin _).mono ?_
          rintro e w1 ⟨rfl, rfl⟩
          go_wp2_with fail
          refine hgo.mono ?_
          rintro e w1 ⟨rfl, hD, hM⟩
          have HE2 := Lib.hid (And.intro hD hM)
          clear hD hM
          obtain ⟨pv, wv, kv, k1, -⟩ := HE2.out.1.mem
          have c0 := (cells_of k1).ep n (by omega)
          have f0 := k1.warm (4 + n)
          have d17 : decide (n < 17) = true := decide_eq_true (by omega)
          clear k1
          have hP := HE2.out.1.put (D' := { goesD D with ep := setAt (goesD D).ep n ep }) (4 + n) (.int .u64 (ep : Int)) ⟨HE2.out.1.good.sec, HE2.out.1.good.wait, HE2.out.1.good.many, HE2.out.1.good.small, HE2.out.1.good.klen, HE2.out.1.good.lim⟩ (fun pv wv kv => dl_set_ep (goesD D) pv wv kv n ep (by omega)) rfl rfl rfl rfl
          obtain ⟨pv, wv, kv, k1, -⟩ := hP.mem
          have c38 := (cells_of k1).last
          have f38 := k1.warm 38
          have hP2 := hP.put (D' := { goesD D with ep := setAt (goesD D).ep n ep, last := ep }) 38 (.int .u64 (ep : Int)) ⟨hP.good.sec, hP.good.wait, hP.good.many, hP.good.small, hP.good.klen, hP.good.lim⟩ (fun pv wv kv => dl_last _ pv wv kv ep) rfl rfl rfl rfl
          have HP := Lib.hid hP2
          clear hP hP2 k1
          go_wp2
          go_ret
          exact ⟨rfl, HP.out, (HE2.out.2.store HE2.out.1.mine _ _).store HE2.out.1.mine _ _⟩
end Go.Proofs.YtlaclbcckadmkaaGreat
namespace Go.Proofs.YtlaclbcckadmkaaGreat
open Go Go.RowKit DskP
set_option maxRecDepth 100000
set_option maxHeartbeats 1000000
set_option linter.unusedSimpArgs false

def zero64 : List UInt8 := List.replicate 64 0
def newD (n : Nat) : Dsk := { on := true, n := n, pl := fun _ => ⟨zero64, zero64, 0⟩, waits := [], count := 0, ep := fun _ => 0, wd := fun _ => 0, last := 0, armed := false, left := 0, keep := [] }
def zeroPl : Array Value := Array.replicate 128 (.int .u8 0) ++ #[.int .i64 0]
theorem zeroPl_enc : zeroPl.toList = encPl ⟨zero64, zero64, 0⟩ := by
  simp [zeroPl, encPl, bl, zero64, ← List.replicate_append_replicate (n := 64) (m := 64)]
theorem zinfo_place : (Tryz.prog.info? 152).map (fun i => (i.zero, i.size, i.bytes)) = some (some (.agg zeroPl), 129, 136) := by kernel_rfl
theorem zinfo_u8 : (Tryz.prog.info? 5).map (fun i => (i.zero, i.size, i.bytes)) = some (some (.int .u8 0), 1, 1) := by kernel_rfl
theorem made_rows {z : Array Value} {k n : Nat} (hz : z.size = k) : (madeCells z (n * k)).toList = rows (fun _ => z.toList) n := by
  refine rows_ext (k := k) (fun _ _ => by simpa using hz) (by simp [madeCells]) fun i r hi hr => ?_
  have h1 : (i + 1) * k ≤ n * k := Nat.mul_le_mul_right k (by omega)
  rw [Nat.succ_mul] at h1
  have h2 : (i * k + r) % k = r := by rw [Nat.add_comm, Nat.add_mul_mod_self_right, Nat.mod_eq_of_lt hr]
  have h3 : r < z.size := by omega
  simp only [madeCells, Array.toList_map, Array.toList_range, List.getElem?_map]
  rw [List.getElem?_range (by omega)]
  simp [hz, h2]
  rw [getElem!_pos z r h3, Array.getElem?_eq_getElem h3]
theorem newD_good {n : Nat} (h : n ≤ 20000) : DGood (newD n) := ⟨fun i _ => ⟨by simp [newD, zero64], by simp [newD, zero64]⟩, by simp [newD], by simp [newD], h, by simp [newD], by simp [newD]⟩
theorem new_any (n : Nat) (h1 : 1 ≤ n) (h2 : n ≤ 20000) (w : World) : Calls Tryz.prog 25 #[.int .i64 (n : Int)] w fun e w' => ∃ p, e = .returned (.pointer (some ⟨p, 0, none⟩)) ∧ DiskAt (fun k => w.heap.size ≤ k) w' p (newD n) ∧ Below w.heap.size w w' := by
  obtain ⟨i0, hi, hz0, hz1, hz2⟩ := info_parts zinfo_place
  have hmk := run_make (P := Tryz.prog) w 92 152 i0 _ Tryz.underlying92 hi hz0 .i64 .i64 n n (by omega) (by omega) (by rw [hz2]; omega) (by omega)
  simp only [Int.toNat_natCast, hz1, show (Value.agg zeroPl).cells = zeroPl from rfl] at hmk
  obtain ⟨C, hC⟩ : ∃ C, C = madeCells zeroPl (n * 129) := ⟨_, rfl⟩
  rw [← hC] at hmk
  have hCl : C.toList = cellsPl (newD n).pl n := by
    rw [hC, made_rows (by decide), cellsPl_rows]
    exact rows_congr fun i _ => zeroPl_enc
  have d1 : decide ((n : Int) < 1) = false := by simp; omega
  have d2 : decide (20000 < (n : Int)) = false := by simp; omega
  have d3 : decide (20000 < n) = false := by simp; omega
  have d4 : decide (n < 1) = false := by simp; omega
  have HC := Lib.hid hCl
  have HN := Lib.hid (And.intro h1 h2)
  clear hz0 hz1 hz2 hi hC hCl h1 h2
  go_enter Tryz.func25, Tryz.ntmps25
  go_wp2
  go_ret
  obtain ⟨w1, hw1⟩ : ∃ w1, w1 = w.alloc (.cells C 152) := ⟨_, rfl⟩
  have hs1 : Sits w1 w.heap.size 152 C := hw1 ▸ Sits.fresh w _ _
  have hb1 : Below w.heap.size w w1 := hw1 ▸ (Below.refl _ w).alloc (Nat.le_refl _) _
  have hz1 : w1.heap.size = w.heap.size + 1 := by rw [hw1, World.size_alloc]
  refine ⟨_, rfl, ⟨newD_good HN.out.2, ?_, .slice (some ⟨w.heap.size, 0, none⟩) n n, .slice none 0 0, .slice none 0 0, ?_, ?_, World.ownsRow_nil _ _ _ _, RowAt.nil _ _ _ _, fun b hb => ?_⟩, ?_⟩
  · show w.heap.size ≤ w.heap.size + 1
    omega
  · rw [← hw1, ← hz1]; exact Sits.fresh w1 _ _
  · rw [← hw1]
    have hcz : C.size = n * 129 := by
      rw [← Array.length_toList, HC.out, cellsPl_rows, rows_len (k := 129)]
      intro i _
      exact encPl_len ⟨by simp [newD, zero64], by simp [newD, zero64]⟩
    have hs2 := hs1.alloc (.cells (dl (newD n) (.slice (some ⟨w.heap.size, 0, none⟩) n n) (.slice none 0 0) (.slice none 0 0)).toArray 95)
    refine ⟨by show (cellsPl (newD n).pl n).length = n * 129; rw [← HC.out]; simpa using hcz, .inr ⟨w.heap.size, 0, n, C, rfl, Nat.zero_le _, hs2, Nat.le_refl _, by have := HN.out; unfold maxLen; omega, by rw [Nat.zero_add]; exact Nat.le_of_eq hcz.symm, ?_⟩⟩
    rw [List.drop_zero, List.take_of_length_le (by rw [Array.length_toList]; exact Nat.le_of_eq hcz)]
    exact HC.out
  · rcases hb with hb | hb | hb <;> simp [Value.ownBlock] at hb
    omega
  · rw [← hw1]; exact hb1.alloc hb1.size _
end Go.Proofs.YtlaclbcckadmkaaGreat
namespace Go.Proofs.YtlaclbcckadmkaaGreat
open Go Go.RowKit DskP
set_option maxRecDepth 100000
set_option maxHeartbeats 1000000
set_option linter.unusedSimpArgs false

theorem elemB : Elem Tryz.prog 87 5 (.int .u8 0) 1 1 := ⟨Tryz.underlying87, by kernel_rfl, rfl, by omega⟩
def zeroPlA : Array Value := zeroPl
theorem zinfo_place2 : (Tryz.prog.info? 152).map (fun i => (i.zero, i.size)) = some (some (.agg zeroPl), 129) := by kernel_rfl
theorem encPl_one (x : Pl) : ∀ u ∈ encPl x, u.oneCell' = true := by
  intro u hu
  unfold encPl at hu
  simp only [List.mem_append, List.mem_singleton] at hu
  rcases hu with (hu | hu) | rfl
  · exact bl_one _ u hu
  · exact bl_one _ u hu
  · rfl
theorem read_nil (pos n : Int) (w : World) : Calls Tryz.prog 63 #[.pointer none, .int .i64 pos, .int .i64 n] w fun x w' => x = .returned (.tuple #[.string (str []), .int .i64 14]) ∧ w = w' := by
  go_enter Tryz.func63, Tryz.ntmps63
  go_wp2_with fail
  refine (on_nil w).mono ?_
  rintro e w1 ⟨rfl, rfl⟩
  go_wp2
  go_ret2
  exact ⟨rfl, rfl⟩
theorem bl_append (a b : List UInt8) : bl (a ++ b) = bl a ++ bl b := by simp [bl]
theorem read_any {S : Nat → Prop} (p : Nat) (D : Dsk) (pos n : Int) (w : World) (h : DiskAt S w p D) :
    Calls Tryz.prog 63 #[.pointer (some ⟨p, 0, none⟩), .int .i64 pos, .int .i64 n] w fun x w' => x = .returned (.tuple #[.string (str (readF D pos n).1), .int .i64 ((readF D pos n).2 : Int)]) ∧ Below w.heap.size w w' := by
  have hon := on_any p D w h
  unfold readF
  cases ho : D.on with
  | false =>
    rw [ho] at hon
    clear h ho
    go_enter Tryz.func63, Tryz.ntmps63
    go_wp2_with fail
    refine hon.mono ?_
    rintro e w1 ⟨rfl, rfl⟩
    go_wp2
    go_ret2
    exact ⟨rfl, Below.refl _ _⟩
  | true =>
    rw [ho] at hon
    rw [if_neg (by simp)]
    clear ho
    by_cases h1 : n < 1
    · rw [if_pos (.inl h1)]
      have d1 : decide (n < 1) = true := decide_eq_true h1
      clear h h1
      go_enter Tryz.func63, Tryz.ntmps63
      go_wp2_with fail
      refine hon.mono ?_
      rintro e w1 ⟨rfl, rfl⟩
      go_wp2
      go_ret2
      exact ⟨rfl, Below.refl _ _⟩
    · have d1 : decide (n < 1) = false := decide_eq_false h1
      by_cases h2 : 400 < n
      · rw [if_pos (.inr (.inl h2))]
        have d2 : decide (400 < n) = true := decide_eq_true h2
        clear h h1 h2
        go_enter Tryz.func63, Tryz.ntmps63
        go_wp2_with fail
        refine hon.mono ?_
        rintro e w1 ⟨rfl, rfl⟩
        go_wp2
        go_ret2
        exact ⟨rfl, Below.refl _ _⟩
      · have d2 : decide (400 < n) = false := decide_eq_false h2
        obtain ⟨m, rfl⟩ := Int.eq_ofNat_of_zero_le (show 0 ≤ n by omega)
        rw [Int.toNat_natCast]
        have hh := dhas_any p D pos m (by omega) w h
        cases hb : hasB D pos m with
        | false =>
          rw [hb] at hh
          rw [if_pos (.inr (.inr rfl))]
          clear h h1 h2 hb
          go_enter Tryz.func63, Tryz.ntmps63
          go_wp2_with fail
          refine hon.mono ?_
          rintro e w1 ⟨rfl, rfl⟩
          go_wp2_with fail
          refine hh.mono ?_
          rintro e w1 ⟨rfl, rfl⟩
          go_wp2
          go_ret2
          exact ⟨rfl, Below.refl _ _⟩
        | true =>
          rw [hb] at hh
          rw [if_neg (by simp; omega)]
          unfold hasB at hb
          simp only [Bool.and_eq_true, decide_eq_true_eq] at hb
          obtain ⟨q0, rfl⟩ := Int.eq_ofNat_of_zero_le hb.1
          rw [Int.toNat_natCast]
          have hle : q0 + m ≤ D.n := by omega
          obtain ⟨pv, wv, kv, k1, k2, -⟩ := h.mem
          obtain ⟨A, cap, rfl, hcap, hcap2, h3, -⟩ := k2.form
          obtain ⟨q, o, rfl⟩ := h3 (by omega)
          have c1 := (k1.cell 1).trans (show (dl D (.slice (some ⟨q, o, none⟩) D.n cap) wv kv).toArray[1]? = some (.slice (some ⟨q, o, none⟩) D.n cap) from rfl)
          have hsm := h.good.small
          have hsec := h.good.sec
          generalize D.n = N at *
          generalize D.pl = f at *
          have e1 : IntKind.i64.wrap ((q0 : Int) + (m : Int)) = ((q0 + m : Nat) : Int) := by rw [IntWalk.i64_in _ (by omega)]; rfl
          have e2 : IntKind.i64.wrap ((m : Int) * 64) = ((m * 64 : Nat) : Int) := by rw [IntWalk.i64_in _ (by omega)]; rfl
          obtain ⟨i0, hi, hz0, hz1, hz2⟩ := info_parts zinfo_u8
          have hmk := run_make (P := Tryz.prog) w 87 5 i0 _ Tryz.underlying87 hi hz0 .i64 .i64 0 ((m * 64 : Nat) : Int) (by omega) (by omega) (by rw [hz2]; omega) (by omega)
          simp only [Int.toNat_natCast, hz1, Nat.mul_one, show (Value.int .u8 0).cells = #[Value.int .u8 0] from rfl, byteCells_made] at hmk
          clear hz0 hz1 hz2 hi
          rw [show ((m * 64 : Nat) : Int) = (m : Int) * 64 by omega] at hmk
          obtain ⟨w1, hw1⟩ : ∃ w1, w1 = w.alloc (.cells (byteCells (List.replicate (m * 64) 0)) 5) := ⟨_, rfl⟩
          have hb1 : Below w.heap.size w w1 := hw1 ▸ (Below.refl _ w).alloc (Nat.le_refl _) _
          have hown : w1.ownsRow w.heap.size 5 1 (.slice (some ⟨w.heap.size, 0, none⟩) 0 (m * 64)) 0 (bl (textOf f q0 0)) :=
            ⟨by simp [textOf, bl], .inr ⟨w.heap.size, m * 64, _, rfl, Nat.le_refl _, hw1 ▸ Sits.fresh w _ _, Nat.zero_le _, by unfold maxLen; omega, by rw [byteCells_size, List.length_replicate, Nat.mul_one], by simp [textOf, bl]⟩⟩
          have hk1 := (h.below hb1)
          have c1' : w1.cell? ⟨p, 1, none⟩ = some (.slice (some ⟨q, o, none⟩) N cap) := (hb1.cell (p := ⟨p, 1, none⟩) h.lt).trans c1
          have d3 : decide (cap = q0) = false := decide_eq_false (by omega)
          have d4 : decide (q0 ≤ q0 + m) = true := decide_eq_true (by omega)
          have d5 : decide (q0 + m ≤ cap) = true := decide_eq_true (by omega)
          have H0 := Lib.hid (And.intro hown hb1)
          have HSEC := Lib.hid hsec
          have HPL := Lib.hid k2
          have HQ := Lib.hid (And.intro hle hsm)
          have HM := Lib.hid (show 1 ≤ m ∧ m ≤ 400 by omega)
          have HW1 := Lib.hid hw1
          have hcq : q0 ≤ cap ∧ q0 + m ≤ cap ∧ q0 < cap := by omega
          have hmI : (m : Int) ≤ 400 := by omega
          rw [hw1] at c1'
          clear h hb1 hown hk1 k1 k2 h3 hsec hw1 hb h1 h2 hle hsm
          go_enter Tryz.func63, Tryz.ntmps63
          go_wp2_with fail
          refine hon.mono ?_
          rintro e w2 ⟨rfl, rfl⟩
          go_wp2_with fail
          refine hh.mono ?_
          rintro e w2 ⟨rfl, rfl⟩
          go_wp2
          clear c1' hmk
          rw [Nat.add_sub_cancel_left]
          go_loopw [8, 40] (fun v i wr => ∃ k : Nat, k ≤ m ∧ i = .int .i64 k ∧ Hid (wr.ownsRow w.heap.size 5 1 v (k * 64) (bl (textOf f q0 k)) ∧ Below w.heap.size w wr)) (fun _ i _ => m - (intOf i).toNat)
          case atStart => exact ⟨0, by omega, rfl, by rw [Nat.zero_mul, ← HW1.out]; exact H0⟩
          case round =>
            obtain ⟨k, hk, rfl, hI⟩ := hrel
            by_cases hlt : k < m
            · have hF : ∀ i, i < N → (encPl (f i)).length = 129 := fun i hi => encPl_len (HSEC.out i hi)
              have hin : q0 + k < N := by have := HQ.out; omega
              have hpl := HPL.out.below hI.out.2
              have hR := hpl.row hF hin 0 (encPl (f (q0 + k))) (fun j u hu => by rw [Nat.zero_add]; exact hu)
              rw [Nat.add_zero, Nat.add_mul, ← Nat.add_assoc] at hR
              have hE := hF _ hin
              have hnow := HSEC.out _ hin
              have htx : textOf f q0 (k + 1) = textOf f q0 k ++ (f (q0 + k)).now := rfl
              generalize f (q0 + k) = x at hR hE hnow htx
              obtain ⟨w2, hw2⟩ : ∃ w2, w2 = wr.alloc (.cells (encPl x).toArray 152) := ⟨_, rfl⟩
              have hs2 : Sits w2 wr.heap.size 152 (encPl x).toArray := hw2 ▸ Sits.fresh wr _ _
              have hb2 : Below wr.heap.size wr w2 := hw2 ▸ (Below.refl _ wr).alloc (Nat.le_refl _) _
              have ho2 := own_keep hI.out.1 fun b hb => hb2.block b (own_lt hI.out.1 b hb)
              have hsrc : Src Tryz.prog 1 87 (.slice (some ⟨wr.heap.size, 0, none⟩) 64 64) 64 (bl x.now) w2 := src_slice Tryz.underlying87 (by rw [bl_len, hnow.1]) (fun _ => ⟨wr.heap.size, 0, rfl, fun j u hu => by
                rw [Nat.zero_add, hs2.cell, List.getElem?_toArray]
                have := encPl_at_now hnow.1 j u hu
                rwa [Nat.zero_add] at this⟩) (bl_one _)
              have hm := HM.out
              obtain ⟨v3, w3, hr3, ho3, hg3, -⟩ := append_src elemB ho2 hsrc 87 (by unfold maxLen; omega) (by omega) (Nat.le_trans hI.out.2.size hb2.size)
              have hb3 : Below w.heap.size w w3 := (hI.out.2.trans (hb2.mono hI.out.2.size)).grown hg3 (Nat.le_trans hI.out.2.size hb2.size) (fun k hk => (ho2.lt k hk).1)
              rw [← bl_append, ← htx, show k * 64 + 64 = (k + 1) * 64 by omega] at ho3
              have HX := Lib.hid (And.intro ho3 hb3)
              rw [hw2] at hr3
              have HR3 := Lib.hid hr3
              have HR := Lib.hid hR
              have HE := Lib.hid hE
              clear hF hin hpl hR hE hnow htx hs2 hb2 ho2 hsrc hr3 ho3 hg3 hb3 hw2 hm
              go_wp2_with (first
                | (with_reducible refine wpList_load_mid rfl 152 (.tmp 42) rfl q (o + q0 * 129 + k * 129) (by simp [Act.eval, Act.put]) (encPl x) _ HR.out Tryz.underlying152 rfl (by rw [HE.out]; exact info_place) ?_)
                | (with_reducible refine wpList_alloc_mid rfl 152 rfl zeroPl 129 zinfo_place2 ?_)
                | (with_reducible refine wpList_fill_mid rfl 152 _ _ rfl zeroPl (encPl x) (by simp [Act.eval, Act.put]) (by simp [Act.eval, Act.put]) (by rw [HE.out]; exact info_place) (by rw [HE.out]; decide) (encPl_one x) ?_)
                | (at_builtin; refine Lib.wpList_append_run _ rfl _ _ _ _ rfl _ _ rfl rfl _ _ HR3.out ?_))
              go_roundw
              case measure => simp [intOf]; omega
              case rel => exact ⟨k + 1, by omega, by go_num, HX⟩
            · obtain rfl : k = m := by omega
              obtain ⟨A, c8, rfl, -, -, h8⟩ := own_form hI.out.1
              obtain ⟨g, rfl⟩ := h8 (by have := HM.out; omega)
              have htl : (textOf f q0 k).length = k * 64 := textOf_length (n := N) (fun i hi => (HSEC.out i hi).1) k (by have := HQ.out; omega)
              have hcv : (convert 87 9 (.slice (some ⟨g, 0, none⟩) (k * 64) c8)).run Tryz.prog wr = .ok (.string (str (textOf f q0 k))) wr := by
                rw [← htl]
                refine run_convert_bytes_back (P := Tryz.prog) wr 87 9 5 ⟨g, 0, none⟩ c8 (textOf f q0 k) Tryz.underlying87 Tryz.underlying5 Tryz.underlying9 (fun j hj => ?_)
                rw [Addr.add_mid, Nat.zero_add]
                exact own_cells hI.out.1 j _ (by unfold bl; rw [List.getElem?_map, List.getElem?_eq_getElem hj]; rfl)
              have HB := Lib.hid hI.out.2
              clear hI h8 htl
              go_wp2
              go_ret2
              exact ⟨rfl, HB.out⟩
end Go.Proofs.YtlaclbcckadmkaaGreat
