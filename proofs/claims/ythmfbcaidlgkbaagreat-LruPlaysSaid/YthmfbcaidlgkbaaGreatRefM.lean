/- commonsref1's Lru: Put. -/
import Derived.Test.YthmfbcaidlgkbaaGreatRefL
namespace Go.Proofs.YthmfbcaidlgkbaaGreat
open Go Go.RowKit LruP
set_option maxRecDepth 100000
set_option maxHeartbeats 2000000
set_option linter.unusedSimpArgs false

/-- Each key once. -/
def Once (T : List (Slot Int Int)) : Prop := T.Pairwise fun a b => a.k ≠ b.k
theorem once_cut {A B A' B' : List (Slot Int Int)} {s s' : Slot Int Int} (h : A ++ s :: B = A' ++ s' :: B') (ho : Once (A ++ s :: B)) (hk : s'.k = s.k) : A' = A ∧ s' = s ∧ B' = B := by
  rcases List.append_eq_append_iff.1 h with ⟨C, h1, h2⟩ | ⟨C, h1, h2⟩
  · cases C with
    | nil =>
      simp only [List.append_nil] at h1
      simp only [List.nil_append] at h2
      injection h2 with h2 h3
      exact ⟨h1, h2.symm, h3.symm⟩
    | cons c C =>
      rw [List.cons_append] at h2
      injection h2 with h2 h3
      have h4 := (List.pairwise_cons.1 (List.pairwise_append.1 ho).2.1).1 s' (by rw [h3]; simp)
      exact absurd hk.symm h4
  · cases C with
    | nil =>
      simp only [List.append_nil] at h1
      simp only [List.nil_append] at h2
      injection h2 with h2 h3
      exact ⟨h1.symm, h2, h3⟩
    | cons c C =>
      rw [List.cons_append] at h2
      injection h2 with h2 h3
      have h4 := (List.pairwise_append.1 ho).2.2 s' (by rw [h1, h2]; simp) s List.mem_cons_self
      exact absurd hk h4
theorem reffind_in (rb lo : Nat) (room : Int) (A B : List (Slot Int Int)) (s : Slot Int Int) (w : World) (hR : RefL w rb lo room (A ++ s :: B)) (hL : (A ++ s :: B).length ≤ 1000000) (ho : Once (A ++ s :: B)) :
    Calls Tryz.prog 7 #[.pointer (some ⟨rb, 0, none⟩), .int .i64 s.k] w fun e w' => e = .returned (.int .i64 A.length) ∧ w = w' :=
  (reffindL_any rb lo room _ s.k w hR hL).mono fun e w' ⟨hw, h⟩ => by
    rcases h with ⟨A', s', B', h1, h2, h3⟩ | ⟨h1, _⟩
    · obtain ⟨rfl, _, _⟩ := once_cut h1 ho h2
      exact ⟨h3, hw⟩
    · exact absurd rfl (h1 s (by simp))
theorem reffind_out (rb lo : Nat) (room : Int) (T : List (Slot Int Int)) (k : Int) (w : World) (hR : RefL w rb lo room T) (hL : T.length ≤ 1000000) (hk : ∀ s ∈ T, s.k ≠ k) :
    Calls Tryz.prog 7 #[.pointer (some ⟨rb, 0, none⟩), .int .i64 k] w fun e w' => e = .returned (.int .i64 (-1)) ∧ w = w' :=
  (reffindL_any rb lo room T k w hR hL).mono fun e w' ⟨hw, h⟩ => by
    rcases h with ⟨A', s', B', rfl, h2, h3⟩ | ⟨_, h1⟩
    · exact absurd h2 (hk s' (by simp))
    · exact ⟨h1, hw⟩

/-- The list, copied, and one of its cells written. -/
theorem refcopy {w : World} {rb lo : Nat} {room : Int} {A B : List (Slot Int Int)} {s : Slot Int Int} (hR : RefL w rb lo room (A ++ s :: B)) (hL : (A ++ s :: B).length ≤ 1000000) (hlo : lo ≤ w.heap.size) :
    ∃ Ad c g2 c2 w2, w.cell? ⟨rb, 0, none⟩ = some (.slice Ad (A ++ s :: B).length c) ∧ (Builtin.append_ #[28, 28] 28 #[.slice none 0 0, .slice Ad (A ++ s :: B).length c]).run Tryz.prog w = .ok (.slice (some ⟨g2, 0, none⟩) (A ++ s :: B).length c2) w2 ∧
      Below w.heap.size w w2 ∧ (A ++ s :: B).length ≤ c2 ∧ w2.cell? ⟨rb, 0, none⟩ = some (.slice Ad (A ++ s :: B).length c) ∧ w2.frozen? ⟨rb, 0, none⟩ = false ∧
      (∀ j u s', j < 3 → (encL s).set j u = encL s' → ∃ x, (w2.setCell ⟨rb, 0, none⟩ (.slice (some ⟨g2, 0, none⟩) (A ++ s :: B).length c2)).cell? ⟨g2, A.length * 3 + j, none⟩ = some x ∧ (encL s)[j]? = some x ∧
        (w2.setCell ⟨rb, 0, none⟩ (.slice (some ⟨g2, 0, none⟩) (A ++ s :: B).length c2)).frozen? ⟨g2, A.length * 3 + j, none⟩ = false ∧
        RefL ((w2.setCell ⟨rb, 0, none⟩ (.slice (some ⟨g2, 0, none⟩) (A ++ s :: B).length c2)).setCell ⟨g2, A.length * 3 + j, none⟩ u) rb lo room (A ++ s' :: B) ∧
        Only rb w ((w2.setCell ⟨rb, 0, none⟩ (.slice (some ⟨g2, 0, none⟩) (A ++ s :: B).length c2)).setCell ⟨g2, A.length * 3 + j, none⟩ u) ∧
        Below lo w ((w2.setCell ⟨rb, 0, none⟩ (.slice (some ⟨g2, 0, none⟩) (A ++ s :: B).length c2)).setCell ⟨g2, A.length * 3 + j, none⟩ u)) := by
  obtain ⟨v, hs, hr⟩ := hR.rows
  obtain ⟨r, w2, a1, a2, a3, -⟩ := copyS_run (B := w.heap.size) hr.src rfl hL (Nat.le_refl _)
  obtain ⟨Ad, c, rfl, -, -, -⟩ := slot_row hr
  obtain ⟨A2, c2, rfl, hc2, -, h3⟩ := slot_row a3
  obtain ⟨g2, rfl, hg2, hg2l, hat, cur, hcur⟩ := h3 (by simp; omega)
  have s2 := hs.below' a2
  refine ⟨Ad, c, g2, c2, w2, (hs.cell 0).trans rfl, a1, a2, hc2, (s2.cell 0).trans rfl, s2.warm 0, fun j u s' hj hset => ?_⟩
  have hrl := hs.lt
  have hgr : g2 ≠ rb := by omega
  have hrow3 : SRow (w2.setCell ⟨rb, 0, none⟩ (.slice (some ⟨g2, 0, none⟩) (A ++ s :: B).length c2)) w.heap.size (.slice (some ⟨g2, 0, none⟩) (A ++ s :: B).length c2) (A ++ s :: B) := by
    obtain ⟨e0, hh | ⟨g9, cap9, cur9, e, q1, q2, q3⟩⟩ := a3
    · exact ⟨e0, .inl hh⟩
    · exact ⟨e0, .inr ⟨g9, cap9, cur9, e, q1, Sits.away (p := ⟨rb, 0, none⟩) q2 (Sits.apart q2 s2 (by decide)) _, q3⟩⟩
  obtain ⟨q1, q2⟩ := hrow3.set j u hj hset
  obtain ⟨x, hx⟩ : ∃ x, (encL s)[j]? = some x := ⟨_, List.getElem?_eq_getElem (by simp [encL]; omega)⟩
  have s3 := s2.put 0 (.slice (some ⟨g2, 0, none⟩) (A ++ s :: B).length c2)
  have s4 := s3.away (p := ⟨g2, A.length * 3 + j, none⟩) (Ne.symm hgr) u
  obtain ⟨A9, c9, e9, -, -, h9⟩ := slot_row hrow3
  obtain ⟨g9, e10, -, -, hat9, -⟩ := h9 (by simp; omega)
  simp only [Value.slice.injEq, true_and] at e9
  obtain ⟨rfl, rfl⟩ := e9
  simp only [Option.some.injEq, Addr.mk.injEq, and_true] at e10
  subst e10
  have hO : Only rb w (w2.setCell ⟨rb, 0, none⟩ (.slice (some ⟨g2, 0, none⟩) (A ++ s :: B).length c2)) := (Only.of_below rb a2).store 0 _
  have hO2 : Only rb w ((w2.setCell ⟨rb, 0, none⟩ (.slice (some ⟨g2, 0, none⟩) (A ++ s :: B).length c2)).setCell ⟨g2, A.length * 3 + j, none⟩ u) :=
    ⟨hO.os, hO.tape, hO.output, by rw [World.size_setCell]; exact hO.size, fun k hk hn => (Below.heap_setCell _ _ _ _ (show k ≠ g2 by omega)).trans (hO.block k hk hn)⟩
  refine ⟨x, hat9 _ _ ((flatL_at A B s j hj).trans hx), hx, q2, ⟨⟨_, s4, ?_⟩, hR.lo_r⟩, hO2, below_put (below_put (a2.mono hlo) hR.lo_r 0 _) (by omega) _ _⟩
  have hl : (A ++ s' :: B).length = (A ++ s :: B).length := by simp
  exact own_mono q1 hlo

/-- Put: the key is there. -/
theorem refput_in (rb lo : Nat) (room : Int) (A B : List (Slot Int Int)) (s : Slot Int Int) (v : Int) (w : World) (hR : RefL w rb lo room (A ++ s :: B)) (hL : (A ++ s :: B).length ≤ 1000000) (ho : Once (A ++ s :: B)) (hlo : lo ≤ w.heap.size) :
    Calls Tryz.prog 9 #[.pointer (some ⟨rb, 0, none⟩), .int .i64 s.k, .int .i64 v] w fun e w' => e = .returned (.tuple #[.int .i64 0, .int .i64 0, .bool false, .bool true]) ∧ RefL w' rb lo room (⟨s.k, v, s.pins⟩ :: (A ++ B)) ∧ Only rb w w' ∧ Below lo w w' := by
  obtain ⟨Ad, c, g2, c2, w2, h0, hrun, hb2, hc2, h20, f20, hset⟩ := refcopy hR hL hlo
  obtain ⟨x, x1, -, x2, hR4, hO4, hB4⟩ := hset 1 (.int .i64 v) ⟨s.k, v, s.pins⟩ (by omega) rfl
  have huse := refuse_any rb lo room A B ⟨s.k, v, s.pins⟩ _ hR4 (by simpa using hL) (Nat.le_trans hlo hO4.size)
  have HF := Lib.hid (reffind_in rb lo room A B s w hR hL ho)
  have HU := Lib.hid huse
  have HO := Lib.hid (And.intro hO4 hB4)
  obtain ⟨n, hn⟩ : ∃ n, n = (A ++ s :: B).length := ⟨_, rfl⟩
  obtain ⟨k, hk⟩ : ∃ k, k = A.length := ⟨_, rfl⟩
  have hkn : k < n := by rw [hn, hk]; simp
  have hkc : k < c2 := by omega
  have i1 : (k : Int) < (n : Int) := by omega
  have d1 : decide ((k : Int) ≥ 0) = true := by simp
  have d2 : decide (0 ≤ (k : Int)) = true := by simp
  rw [← hn] at h0 hrun h20 x1 x2 HU HO
  rw [← hk] at x1 x2 HU HO HF
  have HRUN := Lib.hid hrun
  clear hR hL ho hlo hc2 hset hR4 hO4 hB4 huse hrun hn hk hb2
  go_enter Tryz.func9, Tryz.ntmps9
  go_wp2_with fail
  refine HF.out.mono ?_
  rintro e w' ⟨rfl, rfl⟩
  go_wp2_with (at_builtin; refine wpList_append_eq rfl (.const (.slice none 0 0)) (.tmp 22) 28 28 rfl _ _ _ rfl rfl HRUN.out ?_)
  refine HU.out.mono ?_
  rintro e w5 ⟨rfl, hR5, hO5, hB5⟩
  have HX := Lib.hid (And.intro hR5 (And.intro (HO.out.1.trans hO5) (HO.out.2.trans hB5)))
  clear hR5 hO5 hB5
  go_wp2
  go_returns
  exact ⟨rfl, HX.out⟩

/-- A slot ahead of the list. -/
theorem refahead {w W : World} {rb lo : Nat} {room : Int} {T : List (Slot Int Int)} (s : Slot Int Int) (hR : RefL w rb lo room T) (hL : T.length ≤ 1000000) (hlo : lo ≤ w.heap.size) (hW : Below w.heap.size w W) :
    ∃ Ad c A3 c3 W3, W.cell? ⟨rb, 0, none⟩ = some (.slice Ad T.length c) ∧ (W.alloc (.cells (encL s).toArray 59)).cell? ⟨rb, 0, none⟩ = some (.slice Ad T.length c) ∧
      (Builtin.append_ #[28, 28] 28 #[.slice (some ⟨W.heap.size, 0, none⟩) 1 1, .slice Ad T.length c]).run Tryz.prog (W.alloc (.cells (encL s).toArray 59)) = .ok (.slice A3 (T.length + 1 : Nat) c3) W3 ∧
      W3.cell? ⟨rb, 0, none⟩ = some (.slice Ad T.length c) ∧ W3.frozen? ⟨rb, 0, none⟩ = false ∧ Below w.heap.size w W3 ∧
      RefL (W3.setCell ⟨rb, 0, none⟩ (.slice A3 (T.length + 1 : Nat) c3)) rb lo room (s :: T) ∧ Only rb w (W3.setCell ⟨rb, 0, none⟩ (.slice A3 (T.length + 1 : Nat) c3)) ∧ Below lo w (W3.setCell ⟨rb, 0, none⟩ (.slice A3 (T.length + 1 : Nat) c3)) := by
  obtain ⟨v, hs, hr⟩ := hR.rows
  obtain ⟨Ad, c, rfl, -, -, -⟩ := slot_row hr
  have hW2 := hW.alloc hW.size (.cells (encL s).toArray 59)
  have hr2 : SRow (W.alloc (.cells (encL s).toArray 59)) lo (.slice Ad T.length c) T := own_stays hr hW2.block
  obtain ⟨r, W3, a1, a2, a3⟩ := ahead (Sits.fresh W 59 (encL s).toArray) hW.size hr2 hL hW2
  obtain ⟨A3, c3, rfl, -, -, -⟩ := slot_row a3
  have sW := hs.below' hW
  have sW2 := hs.below' hW2
  have s3 := hs.below' a2
  have hl : (s :: T).length = T.length + 1 := rfl
  rw [hl] at a1 a3
  refine ⟨Ad, c, A3, c3, W3, (sW.cell 0).trans rfl, (sW2.cell 0).trans rfl, a1, (s3.cell 0).trans rfl, s3.warm 0, a2, ⟨⟨_, s3.put 0 _, ?_⟩, hR.lo_r⟩, (Only.of_below rb a2).store 0 _, below_put (a2.mono hlo) hR.lo_r 0 _⟩
  obtain ⟨e0, hh | ⟨g9, cap9, cur9, e, q1, q2, q3⟩⟩ := a3
  · exact ⟨e0, .inl hh⟩
  · exact ⟨e0, .inr ⟨g9, cap9, cur9, e, Nat.le_trans hlo q1, Sits.away (p := ⟨rb, 0, none⟩) q2 (Sits.apart q2 s3 (by decide)) _, q3⟩⟩
/-- Put: the key is not there, there is room. -/
theorem refput_room (rb lo : Nat) (room : Int) (T : List (Slot Int Int)) (k v : Int) (w : World) (hR : RefL w rb lo room T) (hL : T.length ≤ 1000000) (hk : ∀ s ∈ T, s.k ≠ k) (hr : (T.length : Int) < room) (hlo : lo ≤ w.heap.size) :
    Calls Tryz.prog 9 #[.pointer (some ⟨rb, 0, none⟩), .int .i64 k, .int .i64 v] w fun e w' => e = .returned (.tuple #[.int .i64 0, .int .i64 0, .bool false, .bool true]) ∧ RefL w' rb lo room (⟨k, v, 0⟩ :: T) ∧ Only rb w w' ∧ Below lo w w' := by
  have HF := Lib.hid (reffind_out rb lo room T k w hR hL hk)
  obtain ⟨b0, hb0⟩ : ∃ b0, b0 = w.heap.size := ⟨_, rfl⟩
  have hb1 : Below w.heap.size w (w.alloc (.cells #[.int .i64 0, .int .i64 0, .int .i64 0] 59)) := (Below.refl _ w).alloc (Nat.le_refl _) _
  obtain ⟨w1, hw1⟩ : ∃ w1, w1 = w.alloc (.cells #[.int .i64 0, .int .i64 0, .int .i64 0] 59) := ⟨_, rfl⟩
  have s1 := Sits.fresh w 59 #[.int .i64 0, .int .i64 0, .int .i64 0]
  rw [← hw1] at hb1 s1
  obtain ⟨vv, hs, _⟩ := hR.rows
  have r1 := ((hs.below' hb1).cell 1).trans rfl
  have HRB := Lib.hid hs.lt
  have hR1 := hR.below hb1
  have hlo1 : lo ≤ w1.heap.size := Nat.le_trans hlo hb1.size
  obtain ⟨Ad0, c0, A30, c30, W30, p0, -⟩ := refahead ⟨k, v, 0⟩ hR1 hL hlo1 (Below.refl _ _)
  have HA := fun q => Lib.hid (refahead ⟨k, v, 0⟩ hR1 hL hlo1 (below_drewN (Below.refl _ w1) q))
  have d1 : decide ((T.length : Int) ≥ room) = false := decide_eq_false (by omega)
  have d2 : decide (room ≤ (T.length : Int)) = false := decide_eq_false (by omega)
  have HS := Lib.hid (And.intro s1 (And.intro hb1 hlo))
  simp at r1
  clear hR hL hk hr hlo hs hb1 s1 hR1 hlo1
  go_enter Tryz.func9, Tryz.ntmps9
  go_wp2_with fail
  refine HF.out.mono ?_
  rintro e w' ⟨rfl, rfl⟩
  go_wp2_with fail
  rw [← hw1]
  clear hw1
  go_quiet (fail)
  obtain ⟨Ad, c, A3, c3, W3, t0, t0', hrun, t1, t2, hB3, hR3, hO3, hBB3⟩ := (HA nq).out
  obtain ⟨wq, hwq⟩ : ∃ wq, wq = w1.drewN nq := ⟨_, rfl⟩
  have s3 := Sits.away (p := ⟨rb, 0, none⟩) (HS.out.1.below' hB3) (show w.heap.size ≠ rb by have := HRB.out; omega) (.slice A3 (T.length + 1 : Nat) c3)
  have g0 := s3.cell 0
  have g1 := s3.cell 1
  simp at g0 g1
  rw [← hwq] at t0 t0' hrun ⊢
  simp only [encL] at t0' hrun
  have HRUN := Lib.hid hrun
  have HX := Lib.hid (And.intro hR3 (And.intro ((Only.of_below rb HS.out.2.1).trans hO3) ((HS.out.2.1.mono HS.out.2.2).trans hBB3)))
  clear hR3 hO3 hBB3 hB3 hrun hwq p0 HA
  go_wp2_with (at_builtin; refine wpList_append_eq rfl (.tmp 99) (.tmp 103) 28 28 rfl _ _ _ rfl rfl HRUN.out ?_)
  go_quiet (fail)
  go_wp2
  go_returns
  exact ⟨rfl, ⟨HX.out.1.below (below_drewN (Below.refl _ _) _), ⟨HX.out.2.1.os, HX.out.2.1.tape, HX.out.2.1.output, HX.out.2.1.size, HX.out.2.1.block⟩, below_drewN HX.out.2.2 _⟩⟩
/-- Put: the key is not there, there is no room, and all are pinned. -/
theorem refput_held (rb lo : Nat) (room : Int) (T : List (Slot Int Int)) (k v : Int) (w : World) (hR : RefL w rb lo room T) (hL : T.length ≤ 1000000) (hk : ∀ s ∈ T, s.k ≠ k) (hr : room ≤ (T.length : Int)) (hp : ∀ s ∈ T, 0 < s.pins) (_hlo : lo ≤ w.heap.size) :
    Calls Tryz.prog 9 #[.pointer (some ⟨rb, 0, none⟩), .int .i64 k, .int .i64 v] w fun e w' => e = .returned (.tuple #[.int .i64 0, .int .i64 0, .bool false, .bool false]) ∧ RefL w' rb lo room T ∧ Below w.heap.size w w' := by
  have HF := Lib.hid (reffind_out rb lo room T k w hR hL hk)
  have hb1 : Below w.heap.size w (w.alloc (.cells #[.int .i64 0, .int .i64 0, .int .i64 0] 59)) := (Below.refl _ w).alloc (Nat.le_refl _) _
  obtain ⟨w1, hw1⟩ : ∃ w1, w1 = w.alloc (.cells #[.int .i64 0, .int .i64 0, .int .i64 0] 59) := ⟨_, rfl⟩
  rw [← hw1] at hb1
  obtain ⟨vv, hs, hrow⟩ := (hR.below hb1).rows
  have r1 := (hs.cell 1).trans rfl
  obtain ⟨Ad, c, rfl, hc1, hc2, hat⟩ := slot_row hrow
  have r0 : w1.cell? ⟨rb, 0, none⟩ = some (.slice Ad T.length c) := (hs.cell 0).trans rfl
  have d1 : decide ((T.length : Int) ≥ room) = true := decide_eq_true (by omega)
  have d2 : decide (room ≤ (T.length : Int)) = true := decide_eq_true (by omega)
  have e1 : IntKind.i64.wrap ((T.length : Int) - 1) = (T.length : Int) - 1 := IntWalk.i64_in _ (by omega)
  have HR := Lib.hid (And.intro (hR.below hb1) hb1)
  have HAT := Lib.hid hat
  have HP := Lib.hid hp
  have HL := Lib.hid hL
  simp at r1
  clear hR hL hk hr _hlo hs hrow hb1 hat hp
  go_enter Tryz.func9, Tryz.ntmps9
  go_wp2_with fail
  refine HF.out.mono ?_
  rintro e w' ⟨rfl, rfl⟩
  go_wp2_with fail
  rw [← hw1]
  clear hw1
  go_quiet (fail)
  go_wp2_with fail
  go_loopw [10] (fun i wr => ∃ j : Nat, j ≤ T.length ∧ i = .int .i64 ((j : Int) - 1) ∧ wr = w1.drewN nq) (fun i _ => ((intOf i) + 1).toNat)
  case atStart => exact ⟨T.length, Nat.le_refl _, rfl, rfl⟩
  case round =>
    obtain ⟨j, hj, rfl, rfl⟩ := hrel
    rcases Nat.eq_zero_or_pos j with h0 | h0
    · subst h0
      have d3 : decide (((0 : Nat) : Int) - 1 ≥ 0) = false := by decide
      have d4 : decide ((0 : Int) ≤ ((0 : Nat) : Int) - 1) = false := by decide
      have d5 : decide (((0 : Nat) : Int) - 1 < 0) = true := by decide
      go_wp2
      go_returns
      exact ⟨rfl, HR.out.1.below (below_drewN (Below.refl _ _) _), below_drewN HR.out.2 _⟩
    · obtain ⟨i, rfl⟩ : ∃ i, j = i + 1 := ⟨j - 1, by omega⟩
      have e2 : (((i + 1 : Nat) : Int) - 1) = (i : Int) := by omega
      rw [e2]
      have hi : i < T.length := by omega
      obtain ⟨g, rfl, -, -, hcell, -⟩ := HAT.out (by omega)
      obtain ⟨s, hsi⟩ : ∃ s, s = T[i] := ⟨_, rfl⟩
      have hT : T = T.take i ++ s :: T.drop (i + 1) := by rw [hsi, ← List.drop_eq_getElem_cons hi, List.take_append_drop]
      have hlen : (T.take i).length = i := by rw [List.length_take]; omega
      have k2 : w1.cell? ⟨g, i * 3 + 2, none⟩ = some (.int .i64 s.pins) := by
        refine hcell (i * 3 + 2) _ ?_
        have := flatL_at (T.take i) (T.drop (i + 1)) s 2 (by omega)
        rw [← hT, hlen] at this
        exact this
      have hps := HP.out s (by rw [hsi]; exact List.getElem_mem hi)
      have d3 : decide ((i : Int) ≥ 0) = true := by simp
      have d4 : decide ((0 : Int) ≤ (i : Int)) = true := by simp
      have d5 : decide (s.pins > 0) = true := decide_eq_true hps
      have d6 : decide (0 < s.pins) = true := decide_eq_true hps
      have i1 : (i : Int) < (T.length : Int) := by omega
      have hLL := HL.out
      have e3 : IntKind.i64.wrap ((i : Int) - 1) = (i : Int) - 1 := IntWalk.i64_in _ (by omega)
      clear hT hlen hcell hsi hps hLL
      go_wp2_with fail
      go_roundw
      case rel => exact ⟨i, by omega, rfl, by first | rfl | trivial⟩
      case measure => first | (simp [intOf]; done) | (simp [intOf]; omega)
/-- Put: the key is not there, there is no room: the last one that is not pinned goes. -/
theorem refput_goes (rb lo : Nat) (room : Int) (A B : List (Slot Int Int)) (s : Slot Int Int) (k v : Int) (w : World) (hR : RefL w rb lo room (A ++ s :: B)) (hL : (A ++ s :: B).length ≤ 1000000) (hk : ∀ f ∈ A ++ s :: B, f.k ≠ k) (hr : room ≤ ((A ++ s :: B).length : Int)) (hs0 : s.pins = 0) (hp : ∀ f ∈ B, 0 < f.pins) (hlo : lo ≤ w.heap.size) :
    Calls Tryz.prog 9 #[.pointer (some ⟨rb, 0, none⟩), .int .i64 k, .int .i64 v] w fun e w' => e = .returned (.tuple #[.int .i64 s.k, .int .i64 s.v, .bool true, .bool true]) ∧ RefL w' rb lo room (⟨k, v, 0⟩ :: (A ++ B)) ∧ Only rb w w' ∧ Below lo w w' := by
  have HF := Lib.hid (reffind_out rb lo room _ k w hR hL hk)
  have hb1 : Below w.heap.size w (w.alloc (.cells #[.int .i64 0, .int .i64 0, .int .i64 0] 59)) := (Below.refl _ w).alloc (Nat.le_refl _) _
  have s1 := Sits.fresh w 59 #[.int .i64 0, .int .i64 0, .int .i64 0]
  obtain ⟨w1, hw1⟩ : ∃ w1, w1 = w.alloc (.cells #[.int .i64 0, .int .i64 0, .int .i64 0] 59) := ⟨_, rfl⟩
  rw [← hw1] at hb1 s1
  have HRW := Lib.hid (And.intro hR (And.intro hb1 (And.intro hlo s1)))
  obtain ⟨vv, hs, hrow⟩ := hR.rows
  have r1 := ((hs.below' hb1).cell 1).trans rfl
  obtain ⟨Ad, c, rfl, hc1, hc2, hat⟩ := slot_row hrow
  obtain ⟨g, rfl, -, hgl, hcell0, -⟩ := hat (by simp; omega)
  have hcell : ∀ q u, (flatL (A ++ s :: B))[q]? = some u → w1.cell? ⟨g, q, none⟩ = some u := fun q u hu => (hb1.cell (p := ⟨g, q, none⟩) hgl).trans (hcell0 q u hu)
  have r0 : w1.cell? ⟨rb, 0, none⟩ = some (.slice (some ⟨g, 0, none⟩) (A ++ s :: B).length c) := ((hs.below' hb1).cell 0).trans rfl
  obtain ⟨n, hn⟩ : ∃ n, n = (A ++ s :: B).length := ⟨_, rfl⟩
  obtain ⟨a, ha⟩ : ∃ a, a = A.length := ⟨_, rfl⟩
  have han : a < n := by rw [hn, ha]; simp
  rw [← hn] at r0 hr hc1
  have d1 : decide ((n : Int) ≥ room) = true := decide_eq_true (by omega)
  have d2 : decide (room ≤ (n : Int)) = true := decide_eq_true (by omega)
  have hn2 : (n : Int) ≤ 1000000 := by omega
  have e1 : IntKind.i64.wrap ((n : Int) - 1) = (n : Int) - 1 := IntWalk.i64_in _ (by omega)
  have k0 : w1.cell? ⟨g, a * 3, none⟩ = some (.int .i64 s.k) := by rw [ha]; exact hcell _ _ ((flatL_at A B s 0 (by omega)).trans rfl)
  have k1 : w1.cell? ⟨g, a * 3 + 1, none⟩ = some (.int .i64 s.v) := by rw [ha]; exact hcell _ _ ((flatL_at A B s 1 (by omega)).trans rfl)
  have k2 : w1.cell? ⟨g, a * 3 + 2, none⟩ = some (.int .i64 s.pins) := by rw [ha]; exact hcell _ _ ((flatL_at A B s 2 (by omega)).trans rfl)
  have HAT := Lib.hid (And.intro hgl (And.intro hcell (And.intro hs (And.intro hcell0 hc1))))
  have HP := Lib.hid hp
  have HL := Lib.hid (And.intro hL (And.intro hn ha))
  have HS0 := Lib.hid hs0
  simp at r1
  clear hR hL hk hr hlo hs hrow hb1 hat hp hgl hcell hcell0 s1 hs0 hn ha
  go_enter Tryz.func9, Tryz.ntmps9
  go_wp2_with fail
  refine HF.out.mono ?_
  rintro e w' ⟨rfl, rfl⟩
  go_wp2_with fail
  rw [← hw1]
  clear hw1
  go_quiet (fail)
  go_wp2_with fail
  go_loopw [10] (fun i wr => ∃ j : Nat, a < j ∧ j ≤ n ∧ i = .int .i64 ((j : Int) - 1) ∧ wr = w1.drewN nq) (fun i _ => ((intOf i) + 1).toNat)
  case atStart => exact ⟨n, han, Nat.le_refl _, rfl, rfl⟩
  case round =>
    obtain ⟨j, haj, hj, rfl, rfl⟩ := hrel
    obtain ⟨i, rfl⟩ : ∃ i, j = i + 1 := ⟨j - 1, by omega⟩
    have e2 : (((i + 1 : Nat) : Int) - 1) = (i : Int) := by omega
    rw [e2]
    have d3 : decide ((i : Int) ≥ 0) = true := by simp
    have d4 : decide ((0 : Int) ≤ (i : Int)) = true := by simp
    have i1 : (i : Int) < (n : Int) := by omega
    have e3 : IntKind.i64.wrap ((i : Int) - 1) = (i : Int) - 1 := IntWalk.i64_in _ (by omega)
    rcases Nat.lt_or_ge a i with hai | hai
    · have hi : i < (A ++ s :: B).length := by rw [← HL.out.2.1]; omega
      obtain ⟨f, hfi⟩ : ∃ f, f = (A ++ s :: B)[i] := ⟨_, rfl⟩
      have hT : A ++ s :: B = (A ++ s :: B).take i ++ f :: (A ++ s :: B).drop (i + 1) := by rw [hfi, ← List.drop_eq_getElem_cons hi, List.take_append_drop]
      have hlen : ((A ++ s :: B).take i).length = i := by rw [List.length_take]; omega
      have kf : w1.cell? ⟨g, i * 3 + 2, none⟩ = some (.int .i64 f.pins) := by
        refine HAT.out.2.1 (i * 3 + 2) _ ?_
        have := flatL_at ((A ++ s :: B).take i) ((A ++ s :: B).drop (i + 1)) f 2 (by omega)
        rw [← hT, hlen] at this
        exact this
      have hfB : f ∈ B := by
        have h5 := HL.out.2.2
        rw [hfi, List.getElem_append_right (by omega)]
        obtain ⟨q, hq⟩ : ∃ q, i - A.length = q + 1 := ⟨i - A.length - 1, by omega⟩
        simp only [hq, List.getElem_cons_succ]
        exact List.getElem_mem _
      have hps := HP.out f hfB
      have d5 : decide (f.pins > 0) = true := decide_eq_true hps
      have d6 : decide (0 < f.pins) = true := decide_eq_true hps
      clear hT hlen hfi hps hfB k0 k1 k2
      go_wp2_with fail
      go_roundw
      case rel => exact ⟨i, hai, by omega, rfl, by first | rfl | trivial⟩
      case measure => first | (simp [intOf]; done) | (simp [intOf]; omega)
    · obtain rfl : i = a := by omega
      have d5 : decide (s.pins > 0) = false := decide_eq_false (by have := HS0.out; omega)
      have d6 : decide (0 < s.pins) = false := decide_eq_false (by have := HS0.out; omega)
      have d7 : decide ((i : Int) < 0) = false := decide_eq_false (by omega)
      have m0 := HRW.out.2.2.2.cell 0
      have m1 := HRW.out.2.2.2.cell 1
      have m2 := HRW.out.2.2.2.cell 2
      have n0 := HRW.out.2.2.2.warm 0
      have n1 := HRW.out.2.2.2.warm 1
      have n2 := HRW.out.2.2.2.warm 2
      simp at m0 m1 m2
      -- what goes, in a variable of its own
      have hrbw := HAT.out.2.2.1.lt
      obtain ⟨w5, hw5⟩ : ∃ w5, w5 = ((((w1.drewN nq).setCell ⟨w.heap.size, 0, none⟩ (.int .i64 s.k)).setCell ⟨w.heap.size, 1, none⟩ (.int .i64 s.v)).setCell ⟨w.heap.size, 2, none⟩ (.int .i64 s.pins)) := ⟨_, rfl⟩
      have s5 : Sits w5 w.heap.size 59 #[.int .i64 s.k, .int .i64 s.v, .int .i64 s.pins] := by
        rw [hw5]; exact ((Sits.drewN HRW.out.2.2.2 nq).put 0 (.int .i64 s.k)).put 1 (.int .i64 s.v) |>.put 2 (.int .i64 s.pins)
      have hb5 : Below w.heap.size w w5 := hw5 ▸ below_put (below_put (below_put (below_drewN HRW.out.2.1 nq) (Nat.le_refl _) 0 _) (Nat.le_refl _) 1 _) (Nat.le_refl _) 2 _
      have hs5 := HAT.out.2.2.1.below' hb5
      have hC5 : CellsL w5 g (A ++ s :: B) := ⟨Nat.lt_of_lt_of_le HAT.out.1 hb5.size, fun q u hu => (hb5.cell (p := ⟨g, q, none⟩) HAT.out.1).trans (HAT.out.2.2.2.1 q u hu)⟩
      have C0 := Lib.hid (show w5.cell? ⟨rb, 0, none⟩ = some (.slice (some ⟨g, 0, none⟩) n c) by rw [HL.out.2.1]; exact (hs5.cell 0).trans rfl)
      have HLT := Lib.hid hs5.lt
      have h1c : (A ++ s :: B).length ≤ c := by rw [← HL.out.2.1]; exact hc1
      have first : ∀ W, Below w5.heap.size w5 W → _ := fun W hW => out_first (cap := c) hC5 HL.out.1 hW
      have second : ∀ W v0, Below w5.heap.size w5 W → SRow W w5.heap.size v0 A → _ := fun W v0 hW hv => out_second (v0 := v0) hC5 HL.out.1 hW h1c hv
      rw [← HL.out.2.1, ← HL.out.2.2] at second
      rw [← HL.out.2.2] at first
      have HF1 := Lib.hid first
      have HF2 := Lib.hid second
      have HY := Lib.hid (And.intro hs5 (And.intro hb5 s5))
      have e5 : IntKind.i64.wrap ((i : Int) + 1) = ((i + 1 : Nat) : Int) := by rw [IntWalk.i64_in _ (by omega)]; omega
      have i2 : i ≤ c := by omega
      have i3 : (0 : Int) ≤ (i : Int) + 1 := by omega
      have i4 : (i : Int) + 1 ≤ (n : Int) := by omega
      have hk1 : i + 1 ≤ n := han
      clear first second hC5 hs5 hb5 s5
      go_wp2_with fail
      rw [← hw5]
      clear hw5 m0 m1 m2 n0 n1 n2 k0 k1 k2 r0 r1
      refine wp_region_tail 18 (by kernel_rfl) (fun W => Below w5.heap.size w5 W) (StaysL w5.heap.size A B)
        [[(0, none)], [(0, none)], [(78, some 1)], [(79, some 2)], [(80, some 3)], [(10, none)], [(81, some 4), (82, some 5)], [(83, some 6)], [(0, none)], [(85, some 8)], [(86, some 9)], [(87, some 10)], [(10, none)], [(89, some 12)], [(88, some 11), (90, some 13)], [(84, some 7), (91, some 14)], [(77, some 0)], [(93, some 16)], [(92, some 15), (94, some 17)]]
        [none, none, none, none, none, none, none, none, none, none, none, none, none, none, none, none, none, none, none, none, none, none, none, none, none, none, none, none, none, none, none, none, none, none, none, none, none, none, none, none, none, none, none, none, none, none, none, none, none, none, none, none, none, none, none, none, none, none, none, none, none, none, none, none, none, none, none, none, none, none, none, none, none, none, none, none, none, some 0, some 1, some 2, some 3, some 4, some 5, some 6, some 7, some 8, some 9, some 10, some 11, some 12, some 13, some 14, some 15, some 16, some 17, none, none, none, none, none, none, none, none, none, none, none, none, none, none, none, none, none] (by kernel_rfl) (by kernel_rfl) (by kernel_rfl) ((Below.refl _ _).drew) ?_
      simp only [List.take_succ_cons, List.take_zero, List.drop_succ_cons, List.drop_zero]
      iterate 7
        refine ex_pure (c := ?_) (fun W _ => staysL_refl W) ?_ ?_
        rotate_left
        · intro a' W hR hF
          simp only [FactsOf, List.nil_append, List.cons_append, List.getD_cons_zero, List.getD_cons_succ, exists_eq_left, and_true, List.getElem?_toArray, List.getElem?_cons_zero, List.getElem?_cons_succ] at hF
          have hcW := (hR.cell (p := ⟨rb, 0, none⟩) HLT.out).trans C0.out
          refine ⟨?_, ?_⟩
          · simp [Region.wanted, yielded, hF]
          · go_simp
            with_reducible rfl
      refine ex_val (fun v W => SRow W w5.heap.size v A) (fun v W W' _ hS h => hS.1 v h) (fun a' W hR hF => ?_) ?_
      · simp only [FactsOf, List.nil_append, List.cons_append, List.getD_cons_zero, List.getD_cons_succ, exists_eq_left, and_true, List.getElem?_toArray, List.getElem?_cons_zero, List.getElem?_cons_succ] at hF
        obtain ⟨r, W', e1, e2, e3, _, e4, _⟩ := HF1.out W hR
        exact ⟨by simp [Region.wanted, yielded, hF], r, W', exec_append (.const (.slice none 0 0)) (.tmp 83) 28 28 rfl _ _ r rfl (by simp [Act.eval, hF]) e1, e2, e3, e4⟩
      iterate 7
        refine ex_pure (c := ?_) (fun W _ => staysL_refl W) ?_ ?_
        rotate_left
        · intro a' W hR hF
          simp only [FactsOf, List.nil_append, List.cons_append, List.getD_cons_zero, List.getD_cons_succ, exists_eq_left, and_true, List.getElem?_toArray, List.getElem?_cons_zero, List.getElem?_cons_succ] at hF
          have hcW := (hR.cell (p := ⟨rb, 0, none⟩) HLT.out).trans C0.out
          refine ⟨?_, ?_⟩
          · simp [Region.wanted, yielded, hF]
          · go_simp
            with_reducible rfl
      refine ex_val (fun v W => SRow W w5.heap.size v (A ++ B)) (fun v W W' _ hS h => hS.2 v h) (fun a' W hR hF => ?_) ?_
      · simp only [FactsOf, List.nil_append, List.cons_append, List.getD_cons_zero, List.getD_cons_succ, exists_eq_left, and_true, List.getElem?_toArray, List.getElem?_cons_zero, List.getElem?_cons_succ] at hF
        obtain ⟨⟨v, hv1, h84⟩, h91⟩ := hF
        obtain ⟨r, W', e1, e2, e3, _, e4⟩ := HF2.out W v hR hv1
        exact ⟨by simp [Region.wanted, yielded], r, W', exec_append (.tmp 84) (.tmp 91) 28 28 rfl _ _ r (by simp [Act.eval, h84]) (by simp [Act.eval, h91]) e1, e2, e3, e4⟩
      iterate 2
        refine ex_pure (c := ?_) (fun W _ => staysL_refl W) ?_ ?_
        rotate_left
        · intro a' W hR hF
          simp only [FactsOf, List.nil_append, List.cons_append, List.getD_cons_zero, List.getD_cons_succ, exists_eq_left, and_true, List.getElem?_toArray, List.getElem?_cons_zero, List.getElem?_cons_succ] at hF
          have hcW := (hR.cell (p := ⟨rb, 0, none⟩) HLT.out).trans C0.out
          refine ⟨?_, ?_⟩
          · simp [Region.wanted, yielded, hF]
          · go_simp
            with_reducible rfl
      show ∀ W, _ → _
      intro W hR
      simp only [FinOf, List.nil_append, List.cons_append, List.getD_cons_zero, List.getD_cons_succ, forall_eq, forall_exists_index, and_imp, Nat.reduceAdd, Array.getD_eq_getD_getElem?, List.getElem?_toArray, List.getElem?_cons_zero, List.getElem?_cons_succ, Option.getD_some]
      intro v84 hv84 v92 h92
      have hform := slot_row h92
      obtain ⟨m, hm⟩ : ∃ m, m = (A ++ B).length := ⟨_, rfl⟩
      rw [← hm] at hform
      obtain ⟨A9, c9, rfl, -, -, -⟩ := hform
      have sW := HY.out.1.below' hR
      have k0 : W.cell? ⟨rb, 0, none⟩ = some (.slice (some ⟨g, 0, none⟩) n c) := (hR.cell (p := ⟨rb, 0, none⟩) HLT.out).trans C0.out
      have f0 := sW.warm 0
      have hbW : Below w.heap.size w W := HY.out.2.1.trans (hR.mono HY.out.2.1.size)
      obtain ⟨W6, hw6⟩ : ∃ W6, W6 = W.setCell ⟨rb, 0, none⟩ (.slice A9 m c9) := ⟨_, rfl⟩
      have hR6 : RefL W6 rb lo room (A ++ B) := by
        rw [hw6]
        refine ⟨⟨_, sW.put 0 _, ?_⟩, HRW.out.1.lo_r⟩
        obtain ⟨e0, hh | ⟨g9, cap9, cur9, e, q1, q2, q3⟩⟩ := h92
        · exact ⟨e0, .inl hh⟩
        · exact ⟨e0, .inr ⟨g9, cap9, cur9, e, Nat.le_trans (Nat.le_trans HRW.out.2.2.1 HY.out.2.1.size) q1, Sits.away (p := ⟨rb, 0, none⟩) q2 (Sits.apart q2 sW (by decide)) _, q3⟩⟩
      have hO6 : Only rb w W6 := hw6 ▸ (Only.of_below rb hbW).store 0 _
      have hB6 : Below lo w W6 := hw6 ▸ below_put (hbW.mono HRW.out.2.2.1) HRW.out.1.lo_r 0 _
      have s6 : Sits W6 w.heap.size 59 #[.int .i64 s.k, .int .i64 s.v, .int .i64 s.pins] := hw6 ▸ Sits.away (p := ⟨rb, 0, none⟩) (HY.out.2.2.below' hR) (show w.heap.size ≠ rb by omega) _
      obtain ⟨Ad6, c6, A36, c36, W36, t0, t0', hrun, t1, t2, hB36, hR36, hO36, hBB36⟩ := refahead ⟨k, v, 0⟩ hR6 (by have := HL.out.1; simp at this ⊢; omega) (Nat.le_trans HRW.out.2.2.1 hB6.size) (Below.refl _ _)
      have s7 := Sits.away (p := ⟨rb, 0, none⟩) (s6.below' hB36) (show w.heap.size ≠ rb by omega) (.slice A36 ((A ++ B).length + 1 : Nat) c36)
      have g0 := s7.cell 0
      have g1 := s7.cell 1
      have HZ := Lib.hid (And.intro hR36 (And.intro (hO6.trans hO36) (hB6.trans hBB36)))
      have e9 : W6.cell? ⟨rb, 0, none⟩ = some (.slice A9 m c9) := by rw [hw6]; exact ((sW.put 0 (.slice A9 m c9)).cell 0).trans rfl
      simp only [encL, ← hm] at t0 t0' hrun t1 g0 g1 HZ
      rw [e9] at t0
      simp only [Option.some.injEq, Value.slice.injEq, true_and] at t0
      obtain ⟨rfl, rfl⟩ := t0
      simp only [List.getElem?_toArray, List.getElem?_cons_zero, List.getElem?_cons_succ] at g0 g1
      subst hw6
      rw [World.size_setCell] at hrun
      have HRUN := Lib.hid hrun
      clear hm e9 hR6 hO6 hB6 s6 hrun hB36 hR36 hO36 hBB36 s7 hbW sW hv84 h92 hR
      go_wp2_with (at_builtin; refine wpList_append_eq rfl (.tmp 99) (.tmp 103) 28 28 rfl _ _ _ rfl rfl HRUN.out ?_)
      all_goals
        go_quiet (fail)
        go_wp2
        go_returns
        exact ⟨rfl, ⟨HZ.out.1.below (below_drewN (Below.refl _ _) _), ⟨HZ.out.2.1.os, HZ.out.2.1.tape, HZ.out.2.1.output, HZ.out.2.1.size, HZ.out.2.1.block⟩, below_drewN HZ.out.2.2 _⟩⟩
end Go.Proofs.YthmfbcaidlgkbaaGreat
