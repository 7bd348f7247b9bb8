/- SpanTells' second loop, whole. -/
import Derived.Test.YtehnobcjoaclcaaGreatStF
namespace Go.Proofs.YtehnobcjoaclcaaGreat
open Go Go.RowKit SpanP
set_option maxRecDepth 1000000
set_option maxHeartbeats 4000000
set_option linter.unusedSimpArgs false

theorem next3_any (f : Nat → Value) (w : World) (k : Nat) (hk : k < 100) (Q : Exit → Act → World → Prop) (h18 : f 18 = .int .i64 k)
    (hQ : ∀ a', Keep8 (f 0) (f 1) (f 3) (f 9) (.int .i64 (k + 1 : Nat)) a' → Q .normal a' w) : Code.wp Tryz.prog next3L Q ⟨frame f, []⟩ w := by
  have HQ := Lib.hid hQ
  clear hQ
  unfold frame
  rw [h18]
  clear h18
  conv => arg 2; whnf
  go_wp2_with fail
  exact HQ.out _ ⟨rfl, rfl, rfl, rfl, rfl, rfl, rfl⟩
theorem in3_open {Q : Exit → Act → World → Prop} {a : Act} {w : World} (hd : a.defers = []) (hs : a.tmps.size = 288) (h : Code.wp Tryz.prog in3L Q ⟨frame fun n => a.tmps.getD n undef, []⟩ w) : Code.wp Tryz.prog in3L Q a w := by
  rw [open_act a hd hs]
  exact h
/-- One round. -/
theorem three_round (f : Nat → Value) (w W : World) (kb k : Nat) (hk : k < 2) (va vb : Value) (a b : List S) (most : Int) (ha : a.length ≤ 40) (hb : b.length ≤ 40) (hA : Spans w va a) (hB : Spans w vb b) (la : Lim a) (lb : Lim b) (hlow : Below w.heap.size w W) (hbk : ∃ N, Bk W kb w.heap.size (4 * k) k N) (Q : Exit → Act → World → Prop)
    (h0 : f 0 = va) (h1 : f 1 = vb) (h3 : f 3 = .int .i64 most) (h9 : f 9 = .pointer (some ⟨kb, 0, none⟩)) (h18 : f 18 = .int .i64 k)
    (hQ : ∀ a' W' mm, Keep8 va vb (.int .i64 mm) (.pointer (some ⟨kb, 0, none⟩)) (.int .i64 (k + 1 : Nat)) a' → (∃ N, Bk W' kb w.heap.size (4 * (k + 1)) (k + 1) N) → Below w.heap.size w W' → Q .normal a' W') :
    Code.wp Tryz.prog body3L Q ⟨frame f, []⟩ W := by
  have d1 : decide ((k : Int) < 2) = true := decide_eq_true (by omega)
  have HQ := Lib.hid hQ
  have HH := Lib.hid (And.intro hk (And.intro ha (And.intro hb (And.intro hA (And.intro hB (And.intro la (And.intro lb (And.intro hlow hbk))))))))
  clear hQ hk ha hb hA hB la lb hlow hbk
  unfold frame
  rw [h0, h1, h3, h9, h18]
  clear h0 h1 h3 h9 h18
  rw [body3_split]
  conv => arg 2; arg 1; whnf
  go_wp2_with fail
  rename_i K1 hK1
  obtain ⟨hk, ha, hb, hA, hB, la, lb, hlow, hbk⟩ := HH.out
  obtain ⟨N, hN⟩ := hbk
  refine in3_open rfl rfl ?_
  refine sets_any _ w.heap.size W va vb a b ha hb (hA.below hlow) (hB.below hlow) la lb hlow.size _ rfl rfl ?_
  intro a1 W1 X L D R m n x al o p q r t0 t1 t2 t3 t4 hk1 hLs hS ht0 hb1
  obtain ⟨hd1, hs1, g0, g1, g3, g9, g18, g19, g20, g21, g22, g23, g24, g25, g26⟩ := hk1
  have g3' : a1.tmps.getD 3 undef = .int .i64 most := g3
  have g9' : a1.tmps.getD 9 undef = .pointer (some ⟨kb, 0, none⟩) := g9
  have g18' : a1.tmps.getD 18 undef = .int .i64 k := g18
  have hL1 := hlow.trans (hb1.mono hlow.size)
  have hK1' : Bk W1 kb w.heap.size (4 * k) k (fun g => g < t0) := (hN.base.below hb1).weaken fun g h => Nat.lt_of_lt_of_le h ht0
  rw [open_act a1 hd1 hs1]
  refine keep_any (fun n => a1.tmps.getD n undef) w.heap.size W1 kb (4 * k) k a b X L D R m n x al o p q r t0 t1 t2 t3 t4 hLs hS hK1' (by omega) hL1.size _ g9' g23 g24 g25 g26 ?_
  intro a2 W2 hk2 hLs2 hB2 hlow2
  obtain ⟨hd2, hs2, m0, m1, m3, m9, m18, m19, m20, m21, m22, m23, m24, m25, m26⟩ := hk2
  have hL2 := hL1.trans hlow2
  rw [open_act a2 hd2 hs2]
  refine test_any (fun n => a2.tmps.getD n undef) w.heap.size W2 va vb a b X L D R m n x al o p q r t0 t1 t2 t3 t4 hLs2 hS ha hb (hA.below hL2) (hB.below hL2) _ (m0.trans g0) (m1.trans g1) (m19.trans g19) (m20.trans g20) (m21.trans g21) (m22.trans g22) m23 m24 m25 m26 ?_
  intro a3 W3 hk3 hb3
  obtain ⟨hd3, hs3, p0, p1, p3, p9, p18, p19, p20, p21, p22, p23, p24, p25, p26⟩ := hk3
  have hL3 := hL2.trans (hb3.mono hL2.size)
  rw [open_act a3 hd3 hs3]
  refine more_any (fun n => a3.tmps.getD n undef) w.heap.size W3 kb (4 * k + 4) k a b X L D R m n x al o p q r t0 t1 t2 t3 t4 most (hLs2.below hb3) hS ha la (hB2.below hb3) (by omega) hL3.size _ (p3.trans (m3.trans g3')) (p9.trans m9) p19 p21 ?_
  intro a4 W4 z Z g mm hk4 hX hZ hZX hc hB4 hlow4
  obtain ⟨hd4, hs4, q0, q1, q3, q9, q18, q21, q27, q28⟩ := hk4
  have hL4 := hL3.trans hlow4
  rw [open_act a4 hd4 hs4]
  refine rest_any (fun n => a4.tmps.getD n undef) W4 w.heap.size x z g X Z hX hZ hZX hc hS.x.norm (hS.x.lim fun c hc => la.lt hc) hS.xl _ q21 q27 q28 ?_
  intro a5 W5 hk5 hb5
  refine hK1 a5 W5 ?_
  obtain ⟨hd5, hs5, r0, r1, r3, r9, r18⟩ := hk5
  have hL5 := hL4.trans (hb5.mono hL4.size)
  rw [open_act a5 hd5 hs5]
  refine next3_any (fun n => a5.tmps.getD n undef) W5 k (by omega) Q (r18.trans (q18.trans (p18.trans (m18.trans g18')))) ?_
  intro a6 hk6
  obtain ⟨hd6, hs6, s0, s1, s3, s9, s18⟩ := hk6
  obtain ⟨N4, hN4⟩ := hB4
  exact HQ.out a6 W5 mm ⟨hd6, hs6, s0.trans (r0.trans (q0.trans p0)), s1.trans (r1.trans (q1.trans p1)), s3.trans (r3.trans q3), s9.trans (r9.trans q9), s18⟩ ⟨_, hN4.below hb5⟩ hL5
theorem three_last (f : Nat → Value) (w : World) (Q : Exit → Act → World → Prop) (h18 : f 18 = .int .i64 (2 : Nat))
    (hQ : ∀ a' w', Keep8 (f 0) (f 1) (f 3) (f 9) (.int .i64 (2 : Nat)) a' → Below w.heap.size w w' → Q (.exit 4) a' w') : Code.wp Tryz.prog body3L Q ⟨frame f, []⟩ w := by
  have HQ := Lib.hid hQ
  clear hQ
  unfold frame
  rw [h18]
  clear h18
  rw [body3_split]
  conv => arg 2; arg 1; whnf
  go_wp2_with fail
  exact HQ.out _ _ ⟨rfl, rfl, rfl, rfl, rfl, rfl, rfl⟩ (Below.refl _ _)
/-- The second loop. -/
theorem three_loop (a0 : Act) (w W : World) (kb : Nat) (va vb : Value) (a b : List S) (most : Int) (ha : a.length ≤ 40) (hb : b.length ≤ 40) (hA : Spans w va a) (hB : Spans w vb b) (la : Lim a) (lb : Lim b) (hlow : Below w.heap.size w W) (hbk : ∃ N, Bk W kb w.heap.size 0 0 N) (Q : Exit → Act → World → Prop)
    (hK : Keep8 va vb (.int .i64 most) (.pointer (some ⟨kb, 0, none⟩)) (.int .i64 (0 : Nat)) a0)
    (hQ : ∀ a' W' mm, Keep8 va vb (.int .i64 mm) (.pointer (some ⟨kb, 0, none⟩)) (.int .i64 (2 : Nat)) a' → (∃ N, Bk W' kb w.heap.size 8 2 N) → Below w.heap.size w W' → Q (.exit 4) a' W') :
    Code.wp Tryz.prog (.loop body3L) Q a0 W := by
  refine wp_loop (fun a' W' => ∃ (k : Nat) (mm : Int), k ≤ 2 ∧ Keep8 va vb (.int .i64 mm) (.pointer (some ⟨kb, 0, none⟩)) (.int .i64 k) a' ∧ (∃ N, Bk W' kb w.heap.size (4 * k) k N) ∧ Below w.heap.size w W') (fun a' _ => 2 - (intOf (a'.tmps.getD 18 undef)).toNat) ⟨0, most, by omega, hK, hbk, hlow⟩ ?_
  rintro a' W' ⟨k, mm, hk, hK', hbk', hlow'⟩
  obtain ⟨hd, hsz, g0, g1, g3, g9, g18⟩ := hK'
  have hm : 2 - (intOf (a'.tmps.getD 18 undef)).toNat = 2 - k := by rw [g18]; simp [intOf]
  simp only [hm]
  rw [open_act a' hd hsz]
  rcases Nat.lt_or_ge k 2 with hlt | hge
  · refine three_round (fun n => a'.tmps.getD n undef) w W' kb k hlt va vb a b mm ha hb hA hB la lb hlow' hbk' _ g0 g1 g3 g9 g18 ?_
    intro a'' W'' mm' hK'' hbk'' hlow''
    refine ⟨⟨k + 1, mm', hlt, hK'', hbk'', hlow''⟩, ?_⟩
    rw [hK''.2.2.2.2.2.2]
    simp [intOf]
    omega
  · obtain rfl : k = 2 := by omega
    refine three_last (fun n => a'.tmps.getD n undef) W' _ g18 (fun a'' W'' h'' hb'' => ?_)
    simp only [g0, g1, g3, g9] at h''
    exact hQ a'' W'' mm h'' (hbk'.imp fun _ h => h.below hb'') (hlow'.trans (hb''.mono hlow'.size))
end Go.Proofs.YtehnobcjoaclcaaGreat
