/- Package sdisk: admits, has, powerGoes, Restore, Epoch, Word, Put, Admit, Fence, Barrier. -/
import Derived.Test.YtmlhncheodpbpaaGreatDskD
namespace Go.Proofs.YtmlhncheodpbpaaGreat
open Go Go.RowKit DskP
set_option maxRecDepth 100000
set_option maxHeartbeats 1000000
set_option linter.unusedSimpArgs false

theorem restore_any {S : Nat → Prop} (p : Nat) (D : Dsk) (w : World) (h : DiskAt S w p D) : Calls Tryz.prog 19 #[.pointer (some ⟨p, 0, none⟩)] w fun e w' => e = .returned (.tuple #[]) ∧ DiskAt S w' p { D with on := decide (0 < D.n) || D.on } ∧ Many S w w' := by
  obtain ⟨pv, wv, kv, k1, -⟩ := h.mem
  have f0 := k1.warm 0
  have c0 := (k1.cell 0).trans (show (dl D pv wv kv).toArray[0]? = some (.bool D.on) from rfl)
  have HH := Lib.hid h
  clear k1 h
  by_cases hn : 0 < D.n
  · have d1 : decide (0 < D.n) = true := decide_eq_true hn
    rw [d1, Bool.true_or]
    go_enter Tryz.func19, Tryz.ntmps19
    go_wp2_with fail
    refine (sectors_any p D w HH.out).mono ?_
    rintro e w1 ⟨rfl, rfl⟩
    go_wp2
    go_end0
    exact ⟨rfl, HH.out.put 0 (.bool true) ⟨HH.out.good.sec, HH.out.good.wait, HH.out.good.many, HH.out.good.small, HH.out.good.klen, HH.out.good.lim⟩ (fun pv wv kv => dl_on D pv wv kv true) rfl rfl rfl rfl, (Many.refl S w).store HH.out.mine 0 _⟩
  · have d1 : decide (0 < D.n) = false := decide_eq_false hn
    rw [d1, Bool.false_or]
    go_enter Tryz.func19, Tryz.ntmps19
    go_wp2_with fail
    refine (sectors_any p D w HH.out).mono ?_
    rintro e w1 ⟨rfl, rfl⟩
    go_wp2
    go_end0
    exact ⟨rfl, HH.out, Many.refl S w⟩
theorem admits_any {S : Nat → Prop} (p : Nat) (D : Dsk) (node e : Nat) (hn : node ≤ 16) (w : World) (h : DiskAt S w p D) : Calls Tryz.prog 45 #[.pointer (some ⟨p, 0, none⟩), .int .i64 (node : Int), .int .u64 (e : Int)] w fun x w' => x = .returned (.bool (admitsB D node e)) ∧ w = w' := by
  obtain ⟨pv, wv, kv, k1, -⟩ := h.mem
  have c0 := (cells_of k1).ep node (by omega)
  have d1 : decide (node < 17) = true := decide_eq_true (by omega)
  unfold admitsB
  generalize D.ep node = r at c0
  clear k1 h
  by_cases h0 : e = 0
  · subst h0
    go_enter Tryz.func45, Tryz.ntmps45
    go_wp2
    go_ret
    exact ⟨by simp, rfl⟩
  · have e0 : ((e : Int) == 0) = false := by rw [beq_eq_false_iff_ne]; omega
    have e1 : ((e : Int) != 0) = true := by simp [bne, e0]
    have HZ := Lib.hid h0
    clear h0
    by_cases h1 : e = r
    · subst h1
      go_enter Tryz.func45, Tryz.ntmps45
      go_wp2
      go_ret
      exact ⟨by simp [HZ.out], rfl⟩
    · have e2 : ((e : Int) == (r : Int)) = false := by rw [beq_eq_false_iff_ne]; omega
      have HZ2 := Lib.hid h1
      clear h1
      go_enter Tryz.func45, Tryz.ntmps45
      go_wp2
      go_ret
      exact ⟨by simp [HZ.out, HZ2.out], rfl⟩
theorem dhas_any {S : Nat → Prop} (p : Nat) (D : Dsk) (pos : Int) (n : Nat) (hn : n ≤ 1000000) (w : World) (h : DiskAt S w p D) : Calls Tryz.prog 81 #[.pointer (some ⟨p, 0, none⟩), .int .i64 pos, .int .i64 (n : Int)] w fun x w' => x = .returned (.bool (hasB D pos n)) ∧ w = w' := by
  obtain ⟨pv, wv, kv, k1, k2, -⟩ := h.mem
  obtain ⟨A, cap, rfl, -⟩ := k2.form
  have c1 := (k1.cell 1).trans (show (dl D (.slice A D.n cap) wv kv).toArray[1]? = some (.slice A D.n cap) from rfl)
  have hsm := h.good.small
  have e1 : IntKind.i64.wrap ((D.n : Int) - (n : Int)) = (D.n : Int) - (n : Int) := IntWalk.i64_in _ (by omega)
  unfold hasB
  generalize D.n = m at *
  clear k1 k2 h
  by_cases h0 : 0 ≤ pos
  · have d0 : decide (0 ≤ pos) = true := decide_eq_true h0
    rw [d0, Bool.true_and, show decide (pos + (n : Int) ≤ (m : Int)) = decide (pos ≤ (m : Int) - (n : Int)) by rw [decide_eq_decide]; omega]
    go_enter Tryz.func81, Tryz.ntmps81
    go_wp2
    go_ret
    exact ⟨rfl, rfl⟩
  · have d0 : decide (0 ≤ pos) = false := decide_eq_false h0
    rw [d0, Bool.false_and]
    go_enter Tryz.func81, Tryz.ntmps81
    go_wp2
    go_ret
    exact ⟨rfl, rfl⟩
theorem goes_any {S : Nat → Prop} (p : Nat) (D : Dsk) (w : World) (h : DiskAt S w p D) (hc : D.count ≤ 1000000000) : Calls Tryz.prog 46 #[.pointer (some ⟨p, 0, none⟩)] w fun e w' => e = .returned (.bool (goesB D)) ∧ DiskAt S w' p (goesD D) ∧ Many S w w' := by
  have hl : D.left ≤ 9223372036854775807 := h.good.lim
  obtain ⟨pv, wv, kv, k1, -, -, k4, k5⟩ := h.mem
  have c9 := (cells_of k1).armed
  have c10 := (cells_of k1).left
  have c11 := (k1.cell 41).trans (show (dl D pv wv kv).toArray[41]? = some (if D.armed = true then kv else .slice none 0 0) from rfl)
  have f10 := k1.warm 40
  have HH := Lib.hid h
  unfold goesB goesD
  cases ha : D.armed with
  | false =>
    rw [ha] at c9
    clear k1 k4 k5 h ha
    go_enter Tryz.func46, Tryz.ntmps46
    go_wp2
    go_ret
    exact ⟨rfl, HH.out, Many.refl _ _⟩
  | true =>
    rw [ha] at c9
    rw [ha, if_pos rfl] at c11
    simp only [Bool.true_and, if_true]
    by_cases h0 : 0 < D.left
    · rw [if_pos h0, show decide (D.left = 0) = false from decide_eq_false (by omega)]
      have d0 : decide (0 < D.left) = true := decide_eq_true h0
      have e1 : IntKind.i64.wrap ((D.left : Int) - 1) = ((D.left - 1 : Nat) : Int) := by rw [IntWalk.i64_in _ (by omega)]; omega
      have HP := HH.out.put (D' := { D with left := D.left - 1 }) 40 (.int .i64 ((D.left - 1 : Nat) : Int)) ⟨HH.out.good.sec, HH.out.good.wait, HH.out.good.many, HH.out.good.small, HH.out.good.klen, by have := HH.out.good.lim; simp only; omega⟩ (fun pv wv kv => dl_left D pv wv kv _) rfl rfl rfl rfl
      have HQ := Lib.hid HP
      rw [ha] at HQ
      clear k1 k4 k5 h ha h0 HP
      go_enter Tryz.func46, Tryz.ntmps46
      go_wp2
      go_ret
      exact ⟨rfl, HQ.out, (Many.refl _ _).store HH.out.mine 40 _⟩
    · rw [if_neg h0, show decide (D.left = 0) = true from decide_eq_true (by omega)]
      have d0 : decide (0 < D.left) = false := decide_eq_false h0
      have hk : ∀ w', Many (PlBlk S w) w w' → Ints w' kv D.keep := fun w' hm => RowAt.slice (f := fun x : Int => Value.int .i64 x) (k4.keep fun k e => by
        obtain ⟨cur, hcur⟩ := k4.sits k e
        refine hm.block k hcur.lt fun hb => ?_
        obtain ⟨_, cur2, hc2⟩ := hb
        exact absurd rfl (hcur.apart hc2 (by decide)))
      have HK := Lib.hid hk
      clear k1 k4 k5 h ha h0 hk
      go_enter Tryz.func46, Tryz.ntmps46
      go_wp2_with fail
      refine (cut_any p D kv D.keep w HH.out hc HK.out).mono ?_
      rintro e w1 ⟨rfl, hD, hM⟩
      have HE := Lib.hid (And.intro hD hM)
      clear hD hM
      go_wp2
      go_ret
      exact ⟨rfl, HE.out⟩
theorem nodeB_nat {node : Int} (h : nodeB node = true) : ∃ n : Nat, node = (n : Int) ∧ n ≤ 16 := by
  unfold nodeB at h
  simp only [Bool.and_eq_true, decide_eq_true_eq] at h
  obtain ⟨n, rfl⟩ := Int.eq_ofNat_of_zero_le h.1
  exact ⟨n, rfl, by omega⟩
theorem barrier_nil (node : Int) (ep : Nat) (w : World) : Calls Tryz.prog 16 #[.pointer none, .int .i64 node, .int .u64 (ep : Int)] w fun x w' => x = .returned (.int .i64 14) ∧ w = w' := by
  go_enter Tryz.func16, Tryz.ntmps16
  go_wp2_with fail
  refine (on_nil w).mono ?_
  rintro e w1 ⟨rfl, rfl⟩
  go_wp2
  go_ret
  exact ⟨rfl, rfl⟩
theorem barrier_any {S : Nat → Prop} (p : Nat) (D : Dsk) (node : Int) (ep : Nat) (w : World) (h : DiskAt S w p D) (hc : D.count ≤ 1000000) : Calls Tryz.prog 16 #[.pointer (some ⟨p, 0, none⟩), .int .i64 node, .int .u64 (ep : Int)] w fun x w' => x = .returned (.int .i64 ((barF D node ep).1 : Int)) ∧ DiskAt S w' p (barF D node ep).2 ∧ Many S w w' := by
  have hon := on_any p D w h
  have hin := fun W => isnode_any node W
  have hgo := goes_any p D w h (by omega)
  have HH := Lib.hid h
  unfold barF
  cases ho : D.on with
  | false =>
    rw [ho] at hon
    clear h ho
    go_enter Tryz.func16, Tryz.ntmps16
    go_wp2_with fail
    refine hon.mono ?_
    rintro e w1 ⟨rfl, rfl⟩
    go_wp2
    go_ret
    exact ⟨rfl, HH.out, Many.refl _ _⟩
  | true =>
    rw [ho] at hon
    rw [if_neg (by simp)]
    clear ho
    cases hb : nodeB node with
    | false =>
      rw [hb] at hin
      clear h hb
      go_enter Tryz.func16, Tryz.ntmps16
      go_wp2_with fail
      refine hon.mono ?_
      rintro e w1 ⟨rfl, rfl⟩
      go_wp2_with fail
      refine (hin _).mono ?_
      rintro e w1 ⟨rfl, rfl⟩
      go_wp2
      go_ret
      exact ⟨rfl, HH.out, Many.refl _ _⟩
    | true =>
      obtain ⟨n, rfl, hn⟩ := nodeB_nat hb
      rw [hb] at hin
      rw [if_neg (by simp)]
      clear hb
      rw [Int.toNat_natCast]
      have had := admits_any p D n ep hn w h
      cases ha : admitsB D n ep with
      | false =>
        rw [ha] at had
        clear h ha
        go_enter Tryz.func16, Tryz.ntmps16
        go_wp2_with fail
        refine hon.mono ?_
        rintro e w1 ⟨rfl, rfl⟩
        go_wp2_with fail
        refine (hin _).mono ?_
        rintro e w1 ⟨rfl, rfl⟩
        go_wp2_with fail
        refine had.mono ?_
        rintro e w1 ⟨rfl, rfl⟩
        go_wp2
        go_ret
        exact ⟨rfl, HH.out, Many.refl _ _⟩
      | true =>
        rw [ha] at had
        rw [if_neg (by simp)]
        clear ha
        cases hg : goesB D with
        | true =>
          rw [hg] at hgo
          clear h hg
          go_enter Tryz.func16, Tryz.ntmps16
          go_wp2_with fail
          refine hon.mono ?_
          rintro e w1 ⟨rfl, rfl⟩
          go_wp2_with fail
          refine (hin _).mono ?_
          rintro e w1 ⟨rfl, rfl⟩
          go_wp2_with fail
          refine had.mono ?_
          rintro e w1 ⟨rfl, rfl⟩
          go_wp2_with fail
          refine hgo.mono ?_
          rintro e w1 ⟨rfl, hD, hM⟩
          have HE := Lib.hid (And.intro hD hM)
          clear hD hM
          go_wp2
          go_ret
          exact ⟨rfl, HE.out⟩
        | false =>
          rw [hg] at hgo
          clear h hg
          go_enter Tryz.func16, Tryz.ntmps16
          go_wp2_with fail
          refine hon.mono ?_
          rintro e w1 ⟨rfl, rfl⟩
          go_wp2_with fail
          refine (hin _).mono ?_
          rintro e w1 ⟨rfl, rfl⟩
          go_wp2_with fail
          refine had.mono ?_
          rintro e w1 ⟨rfl, rfl⟩
          go_wp2_with fail
          refine hgo.mono ?_
          rintro e w1 ⟨rfl, hD, hM⟩
          have HE := Lib.hid (And.intro hD hM)
          clear hD hM
          go_wp2_with fail
          refine (settle_any p (goesD D) n w1 HE.out.1 (by rw [goesD_count]; omega)).mono ?_
          rintro e w2 ⟨rfl, hD2, hM2⟩
          have HE2 := Lib.hid (And.intro hD2 (HE.out.2.trans hM2))
          clear hD2 hM2
          go_wp2
          go_ret
          exact ⟨rfl, HE2.out⟩
theorem fence_nil (node : Int) (w : World) : Calls Tryz.prog 72 #[.pointer none, .int .i64 node] w fun x w' => x = .returned (.int .i64 14) ∧ w = w' := by
  go_enter Tryz.func72, Tryz.ntmps72
  go_wp2_with fail
  refine (on_nil w).mono ?_
  rintro e w1 ⟨rfl, rfl⟩
  go_wp2
  go_ret
  exact ⟨rfl, rfl⟩
theorem fence_any {S : Nat → Prop} (p : Nat) (D : Dsk) (node : Int) (w : World) (h : DiskAt S w p D) (hc : D.count ≤ 1000000) : Calls Tryz.prog 72 #[.pointer (some ⟨p, 0, none⟩), .int .i64 node] w fun x w' => x = .returned (.int .i64 ((fenF D node).1 : Int)) ∧ DiskAt S w' p (fenF D node).2 ∧ Many S w w' := by
  have hon := on_any p D w h
  have hin := fun W => isnode_any node W
  have hgo := goes_any p D w h (by omega)
  have HH := Lib.hid h
  unfold fenF
  cases ho : D.on with
  | false =>
    rw [ho] at hon
    clear h ho
    go_enter Tryz.func72, Tryz.ntmps72
    go_wp2_with fail
    refine hon.mono ?_
    rintro e w1 ⟨rfl, rfl⟩
    go_wp2
    go_ret
    exact ⟨rfl, HH.out, Many.refl _ _⟩
  | true =>
    rw [ho] at hon
    rw [if_neg (by simp)]
    clear ho
    cases hb : nodeB node with
    | false =>
      rw [hb] at hin
      clear h hb
      go_enter Tryz.func72, Tryz.ntmps72
      go_wp2_with fail
      refine hon.mono ?_
      rintro e w1 ⟨rfl, rfl⟩
      go_wp2_with fail
      refine (hin _).mono ?_
      rintro e w1 ⟨rfl, rfl⟩
      go_wp2
      go_ret
      exact ⟨rfl, HH.out, Many.refl _ _⟩
    | true =>
      obtain ⟨n, rfl, hn⟩ := nodeB_nat hb
      rw [hb] at hin
      rw [if_neg (by simp)]
      clear hb
      rw [Int.toNat_natCast]
      cases hg : goesB D with
      | true =>
        rw [hg] at hgo
        clear h hg
        go_enter Tryz.func72, Tryz.ntmps72
        go_wp2_with fail
        refine hon.mono ?_
        rintro e w1 ⟨rfl, rfl⟩
        go_wp2_with fail
        refine (hin _).mono ?_
        rintro e w1 ⟨rfl, rfl⟩
        go_wp2_with fail
        refine hgo.mono ?_
        rintro e w1 ⟨rfl, hD, hM⟩
        have HE := Lib.hid (And.intro hD hM)
        clear hD hM
        go_wp2
        go_ret
        exact ⟨rfl, HE.out⟩
      | false =>
        rw [hg] at hgo
        clear h hg
        go_enter Tryz.func72, Tryz.ntmps72
        go_wp2_with fail
        refine hon.mono ?_
        rintro e w1 ⟨rfl, rfl⟩
        go_wp2_with fail
        refine (hin _).mono ?_
        rintro e w1 ⟨rfl, rfl⟩
        go_wp2_with fail
        refine hgo.mono ?_
        rintro e w1 ⟨rfl, hD, hM⟩
        have HE := Lib.hid (And.intro hD hM)
        clear hD hM
        go_wp2_with fail
        refine (settle_any p (goesD D) n w1 HE.out.1 (by rw [goesD_count]; omega)).mono ?_
        rintro e w2 ⟨rfl, hD2, hM2⟩
        have HE2 := Lib.hid (And.intro hD2 (HE.out.2.trans hM2))
        clear hD2 hM2
        obtain ⟨pv, wv, kv, k1, -⟩ := HE2.out.1.mem
        have c0 := (cells_of k1).ep n (by omega)
        have f0 := k1.warm (4 + n)
        have d17 : decide (n < 17) = true := decide_eq_true (by omega)
        clear k1
        have hP := HE2.out.1.put (D' := { settleD (goesD D) n with ep := setAt (goesD D).ep n 0 }) (4 + n) (.int .u64 0) ⟨HE2.out.1.good.sec, HE2.out.1.good.wait, HE2.out.1.good.many, HE2.out.1.good.small, HE2.out.1.good.klen, HE2.out.1.good.lim⟩ (fun pv wv kv => dl_set_ep (settleD (goesD D) n) pv wv kv n 0 (by omega)) rfl rfl rfl rfl
        have HP := Lib.hid hP
        clear hP
        go_wp2
        go_ret
        exact ⟨rfl, HP.out, HE2.out.2.store HE2.out.1.mine _ _⟩
theorem dput_nil (node : Int) (wx : Nat) (w : World) : Calls Tryz.prog 102 #[.pointer none, .int .i64 node, .int .u64 (wx : Int)] w fun x w' => x = .returned (.int .i64 14) ∧ w = w' := by
  go_enter Tryz.func102, Tryz.ntmps102
  go_wp2_with fail
  refine (on_nil w).mono ?_
  rintro e w1 ⟨rfl, rfl⟩
  go_wp2
  go_ret
  exact ⟨rfl, rfl⟩
theorem dput_any {S : Nat → Prop} (p : Nat) (D : Dsk) (node : Int) (wx : Nat) (w : World) (h : DiskAt S w p D) (hc : D.count ≤ 1000000) : Calls Tryz.prog 102 #[.pointer (some ⟨p, 0, none⟩), .int .i64 node, .int .u64 (wx : Int)] w fun x w' => x = .returned (.int .i64 ((putF D node wx).1 : Int)) ∧ DiskAt S w' p (putF D node wx).2 ∧ Many S w w' := by
  have hon := on_any p D w h
  have hin := fun W => isnode_any node W
  have hgo := goes_any p D w h (by omega)
  have HH := Lib.hid h
  unfold putF
  cases ho : D.on with
  | false =>
    rw [ho] at hon
    clear h ho
    go_enter Tryz.func102, Tryz.ntmps102
    go_wp2_with fail
    refine hon.mono ?_
    rintro e w1 ⟨rfl, rfl⟩
    go_wp2
    go_ret
    exact ⟨rfl, HH.out, Many.refl _ _⟩
  | true =>
    rw [ho] at hon
    rw [if_neg (by simp)]
    clear ho
    cases hb : nodeB node with
    | false =>
      rw [hb] at hin
      clear h hb
      go_enter Tryz.func102, Tryz.ntmps102
      go_wp2_with fail
      refine hon.mono ?_
      rintro e w1 ⟨rfl, rfl⟩
      go_wp2_with fail
      refine (hin _).mono ?_
      rintro e w1 ⟨rfl, rfl⟩
      go_wp2
      go_ret
      exact ⟨rfl, HH.out, Many.refl _ _⟩
    | true =>
      obtain ⟨n, rfl, hn⟩ := nodeB_nat hb
      rw [hb] at hin
      rw [if_neg (by simp)]
      clear hb
      rw [Int.toNat_natCast]
      cases hg : goesB D with
      | true =>
        rw [hg] at hgo
        clear h hg
        go_enter Tryz.func102, Tryz.ntmps102
        go_wp2_with fail
        refine hon.mono ?_
        rintro e w1 ⟨rfl, rfl⟩
        go_wp2_with fail
        refine (hin _).mono ?_
        rintro e w1 ⟨rfl, rfl⟩
        go_wp2_with fail
        refine hgo.mono ?_
        rintro e w1 ⟨rfl, hD, hM⟩
        have HE := Lib.hid (And.intro hD hM)
        clear hD hM
        go_wp2
        go_ret
        exact ⟨rfl, HE.out⟩
      | false =>
        rw [hg] at hgo
        clear h hg
        go_enter Tryz.func102, Tryz.ntmps102
        go_wp2_with fail
        refine hon.mono ?_
        rintro e w1 ⟨rfl, rfl⟩
        go_wp2_with fail
        refine (hin _).mono ?_
        rintro e w1 ⟨rfl, rfl⟩
        go_wp2_with fail
        refine hgo.mono ?_
        rintro e w1 ⟨rfl, hD, hM⟩
        have HE2 := Lib.hid (And.intro hD hM)
        clear hD hM
        obtain ⟨pv, wv, kv, k1, -⟩ := HE2.out.1.mem
        have c0 := (cells_of k1).wd n (by omega)
        have f0 := k1.warm (21 + n)
        have d17 : decide (n < 17) = true := decide_eq_true (by omega)
        clear k1
        have hP := HE2.out.1.put (D' := { goesD D with wd := setAt (goesD D).wd n wx }) (21 + n) (.int .u64 (wx : Int)) ⟨HE2.out.1.good.sec, HE2.out.1.good.wait, HE2.out.1.good.many, HE2.out.1.good.small, HE2.out.1.good.klen, HE2.out.1.good.lim⟩ (fun pv wv kv => dl_set_wd (goesD D) pv wv kv n wx (by omega)) rfl rfl rfl rfl
        have HP := Lib.hid hP
        clear hP
        go_wp2
        go_ret
        exact ⟨rfl, HP.out, HE2.out.2.store HE2.out.1.mine _ _⟩
theorem admit_nil (node : Int) (ep : Nat) (w : World) : Calls Tryz.prog 35 #[.pointer none, .int .i64 node, .int .u64 (ep : Int)] w fun x w' => x = .returned (.int .i64 14) ∧ w = w' := by
  go_enter Tryz.func35, Tryz.ntmps35
  go_wp2_with fail
  refine (on_nil w).mono ?_
  rintro e w1 ⟨rfl, rfl⟩
  go_wp2
  go_ret
  exact ⟨rfl, rfl⟩
theorem admit_any {S : Nat → Prop} (p : Nat) (D : Dsk) (node : Int) (ep : Nat) (w : World) (h : DiskAt S w p D) (hc : D.count ≤ 1000000) : Calls Tryz.prog 35 #[.pointer (some ⟨p, 0, none⟩), .int .i64 node, .int .u64 (ep : Int)] w fun x w' => x = .returned (.int .i64 ((admF D node ep).1 : Int)) ∧ DiskAt S w' p (admF D node ep).2 ∧ Many S w w' := by
  have hon := on_any p D w h
  have hin := fun W => isnode_any node W
  have hgo := goes_any p D w h (by omega)
  have HH := Lib.hid h
  unfold admF
  cases ho : D.on with
  | false =>
    rw [ho] at hon
    clear h ho
    go_enter Tryz.func35, Tryz.ntmps35
    go_wp2_with fail
    refine hon.mono ?_
    rintro e w1 ⟨rfl, rfl⟩
    go_wp2
    go_ret
    exact ⟨rfl, HH.out, Many.refl _ _⟩
  | true =>
    rw [ho] at hon
    rw [if_neg (by simp)]
    clear ho
    cases hb : nodeB node with
    | false =>
      rw [hb] at hin
      clear h hb
      go_enter Tryz.func35, Tryz.ntmps35
      go_wp2_with fail
      refine hon.mono ?_
      rintro e w1 ⟨rfl, rfl⟩
      go_wp2_with fail
      refine (hin _).mono ?_
      rintro e w1 ⟨rfl, rfl⟩
      go_wp2
      go_ret
      exact ⟨rfl, HH.out, Many.refl _ _⟩
    | true =>
      obtain ⟨n, rfl, hn⟩ := nodeB_nat hb
      rw [hb] at hin
      rw [if_neg (by simp)]
      clear hb
      rw [Int.toNat_natCast]
      obtain ⟨pv, wv, kv, k1, -⟩ := h.mem
      have cl := (cells_of k1).last
      clear k1
      by_cases hle : ep ≤ D.last
      · rw [if_pos hle]
        have dl1 : decide (ep ≤ D.last) = true := decide_eq_true hle
        clear h hle
        go_enter Tryz.func35, Tryz.ntmps35
        go_wp2_with fail
        refine hon.mono ?_
        rintro e w1 ⟨rfl, rfl⟩
        go_wp2_with fail
        refine (hin _).mono ?_
        rintro e w1 ⟨rfl, rfl⟩
        go_wp2
        go_ret
        exact ⟨rfl, HH.out, Many.refl _ _⟩
      · rw [if_neg hle]
        have dl1 : decide (ep ≤ D.last) = false := decide_eq_false hle
        clear hle
        cases hg : goesB D with
        | true =>
          rw [hg] at hgo
          clear h hg
          go_enter Tryz.func35, Tryz.ntmps35
          go_wp2_with fail
          refine hon.mono ?_
          rintro e w1 ⟨rfl, rfl⟩
          go_wp2_with fail
          refine (hin _).mono ?_
          rintro e w1 ⟨rfl, rfl⟩
          go_wp2_with fail
          refine hgo.mono ?_
          rintro e w1 ⟨rfl, hD, hM⟩
          have HE := Lib.hid (And.intro hD hM)
          clear hD hM
          go_wp2
          go_ret
          exact ⟨rfl, HE.out⟩
        | false =>
          rw [hg] at hgo
          clear h hg
          go_enter Tryz.func35, Tryz.ntmps35
          go_wp2_with fail
          refine hon.mono ?_
          rintro e w1 ⟨rfl, rfl⟩
          go_wp2_with fail
          refine (hin _).mono ?_
          rintro e w1 ⟨rfl, rfl⟩
          go_wp2_with fail
          refine hgo.mono ?_
          rintro e w1 ⟨rfl, hD, hM⟩
          have HE2 := Lib.hid (And.intro hD hM)
          clear hD hM
          obtain ⟨pv, wv, kv, k1, -⟩ := HE2.out.1.mem
          have c0 := (cells_of k1).ep n (by omega)
          have f0 := k1.warm (4 + n)
          have d17 : decide (n < 17) = true := decide_eq_true (by omega)
          clear k1
          have hP := HE2.out.1.put (D' := { goesD D with ep := setAt (goesD D).ep n ep }) (4 + n) (.int .u64 (ep : Int)) ⟨HE2.out.1.good.sec, HE2.out.1.good.wait, HE2.out.1.good.many, HE2.out.1.good.small, HE2.out.1.good.klen, HE2.out.1.good.lim⟩ (fun pv wv kv => dl_set_ep (goesD D) pv wv kv n ep (by omega)) rfl rfl rfl rfl
          obtain ⟨pv, wv, kv, k1, -⟩ := hP.mem
          have c38 := (cells_of k1).last
          have f38 := k1.warm 38
          have hP2 := hP.put (D' := { goesD D with ep := setAt (goesD D).ep n ep, last := ep }) 38 (.int .u64 (ep : Int)) ⟨hP.good.sec, hP.good.wait, hP.good.many, hP.good.small, hP.good.klen, hP.good.lim⟩ (fun pv wv kv => dl_last _ pv wv kv ep) rfl rfl rfl rfl
          have HP := Lib.hid hP2
          clear hP hP2 k1
          go_wp2
          go_ret
          exact ⟨rfl, HP.out, (HE2.out.2.store HE2.out.1.mine _ _).store HE2.out.1.mine _ _⟩
end Go.Proofs.YtmlhncheodpbpaaGreat
