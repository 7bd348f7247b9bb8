/- commonsref1: a map of ranges: Set. -/
import Derived.Test.YtehnobcjoaclcaaGreatPartD
import Derived.Test.YtehnobcjoaclcaaGreatGB
namespace Go.Proofs.YtehnobcjoaclcaaGreat
open Go Go.RowKit SpanP PartP
set_option maxRecDepth 100000
set_option maxHeartbeats 2000000
set_option linter.unusedSimpArgs false

theorem refsetq_any (v : Value) (l : List Pt) (s : S) (hs : Ok s) (val : Int) (w : World) (h : Parts w v l) (hn : PNorm l) (hl : l.length ≤ 900) :
    Calls Tryz.prog 28 #[v, aggS s, .int .i64 val] w fun e w' => ∃ r m, e = .returned r ∧ QRow w' 0 r m ∧ MapOf m (fun b u => (Has s b ∧ val = u) ∨ (Val l b u ∧ ¬ Has s b)) ∧ m.length ≤ l.length + 2 ∧ Below w.heap.size w w' := by
  have hcle := clear_len hs hn
  obtain ⟨A, ca, rfl, -, -, -⟩ := h.read
  have HW := Lib.hid h
  have HN := Lib.hid hn
  have HL := Lib.hid hl
  have HSO := Lib.hid hs
  have hv : ∀ W : World, Calls Tryz.prog 5 #[.agg #[.int .i64 s.1, .int .i64 s.2]] W fun e w' => e = .returned (.bool true) ∧ ∃ q os, w' = Sort.grow (W.drewN q) os := fun W => by
    have := refvalid_any s W
    rwa [decide_eq_true hs] at this
  obtain ⟨p4, hp4⟩ : ∃ p, p = w.heap.size := ⟨_, rfl⟩
  obtain ⟨w1, hw1⟩ : ∃ w', w' = w.alloc (.cells #[.int .i64 s.1, .int .i64 s.2] 43) := ⟨_, rfl⟩
  have H1 : Hid (Sits w1 p4 43 #[.int .i64 s.1, .int .i64 s.2]) := Lib.hid (by rw [hw1, hp4]; exact Sits.fresh w _ _)
  have HB1 : Hid (Below w.heap.size w w1) := Lib.hid (by rw [hw1]; exact (Below.refl _ w).alloc (Nat.le_refl _) _)
  have HCL : Hid ((PartP.clear s l).length ≤ 1000 ∧ (PartP.clear s l).length ≤ l.length + 1) := Lib.hid ⟨by omega, hcle⟩
  clear h hn hl hs hcle
  unfold aggS
  go_enter Tryz.func28, Tryz.ntmps28
  go_wp2_with fail
  rw [← hw1, ← hp4]
  clear hw1 hp4
  refine (hv _).mono ?_
  rintro e w2 ⟨rfl, hg⟩
  have H2 := Lib.hid (H1.out.below' (grown_below hg))
  have HB2 := Lib.hid (HB1.out.trans ((grown_below hg).mono HB1.out.size))
  clear hg hv
  have k0 := H2.out.cell 0
  have k1 := H2.out.cell 1
  simp at k0 k1
  have hcl := refclear_any _ l s HSO.out w2 (HW.out.below HB2.out) (by have := HL.out; omega)
  unfold aggS at hcl
  go_wp2_with fail
  refine hcl.mono ?_
  rintro e w3 ⟨r3, rfl, hr3, hb3⟩
  obtain ⟨c, hc⟩ : ∃ c, c = PartP.clear s l := ⟨_, rfl⟩
  rw [← hc] at hr3 HCL
  have HC := Lib.hid hc
  have hP3 := hr3.parts
  have hnil : r3 = .slice none 0 0 ∨ ∃ g o cap, r3 = .slice (some ⟨g, o, none⟩) c.length cap := by
    rcases hr3.2 with ⟨e, _⟩ | ⟨g, o, cap, cur, e, _⟩
    · exact .inl e
    · exact .inr ⟨g, o, cap, e⟩
  obtain ⟨A3, ca3, rfl, hca1, hca2, hat3⟩ := hP3.read
  have HNIL := Lib.hid hnil
  have HAT := Lib.hid hat3
  have HP3 := Lib.hid hP3
  have H3 := Lib.hid (H2.out.below' hb3)
  have HB3 := Lib.hid (HB2.out.trans (hb3.mono HB2.out.size))
  have hclen : (c.length : Int) ≤ 1000 := by have := HCL.out; omega
  clear hr3 hb3 hP3 hcl k0 k1 hc hat3 hnil
  go_wp2_with fail
  go_loopw [7] (fun i wr => ∃ k : Nat, k ≤ c.length ∧ i = .int .i64 k ∧ (∀ x ∈ c.take k, x.1.1 < s.1) ∧ ∃ nq, wr = w3.drewN nq) (fun i _ => c.length - (intOf i).toNat)
  case atStart => exact ⟨0, by omega, rfl, by simp, 0, rfl⟩
  case round =>
    obtain ⟨k, hk, rfl, hbe, n0, rfl⟩ := hrel
    have HBE := Lib.hid hbe
    clear hbe
    have z0 := H3.out.cell 0
    have z1 := H3.out.cell 1
    simp at z0 z1
    by_cases hlt : k < c.length
    · obtain ⟨b, o, hA3, hb, c0, c1, c2⟩ := HAT.out k hlt
      have hnx : ∀ y ∈ c.take (k + 1), y ∈ c.take k ∨ y = c[k] := fun y hy => by
        rw [List.take_succ_eq_append_getElem hlt] at hy
        rcases List.mem_append.1 hy with h | h
        · exact .inl h
        · exact .inr (List.mem_singleton.1 h)
      have hge0 : s.1 ≤ c[k].1.1 → ∀ y ∈ c.drop k, s.1 ≤ y.1.1 := fun h0 y hy => by
        have hcn := (clear_norm HSO.out HN.out).row.up
        rw [← HC.out] at hcn
        have hd := hcn.drop (i := k)
        rw [List.drop_eq_getElem_cons hlt] at hd hy
        rcases List.mem_cons.1 hy with rfl | hy
        · exact h0
        · have h1 := (List.pairwise_cons.1 hd).1 y hy
          have h2 : Ok c[k].1 := (clear_norm HSO.out HN.out).ok _ (by rw [← HC.out]; exact List.getElem_mem hlt)
          unfold Ok at h2
          omega
      obtain ⟨x, hx⟩ : ∃ x, x = c[k] := ⟨_, rfl⟩
      rw [← hx] at c0 c1 c2 hnx hge0
      by_cases hxs : x.1.1 < s.1
      · have d1 : decide (x.1.1 < s.1) = true := decide_eq_true hxs
        have HBE2 : Hid (∀ y ∈ c.take (k + 1), y.1.1 < s.1) := Lib.hid (fun y hy => by
          rcases hnx y hy with h | rfl
          · exact HBE.out y h
          · exact hxs)
        clear hnx hge0 hx hxs
        subst hA3
        go_wp2
        go_quiet (fail)
        go_wp2
        go_roundw
        case rel => exact ⟨k + 1, by omega, by go_num, HBE2.out, _, by simp only [World.drewN, Nat.add_assoc]; rfl⟩
        case measure => simp [intOf]; omega
      · have d1 : decide (x.1.1 < s.1) = false := decide_eq_false hxs
        have hge := hge0 (by omega)
        clear hnx hge0 hx hxs
        subst hA3
        go_wp2
        go_quiet (fail)
        go_wp2_with fail
        obtain ⟨b3, hb3⟩ : ∃ b3, b3 = b := ⟨_, rfl⟩
        obtain ⟨o3, ho3⟩ : ∃ o3, o3 = o := ⟨_, rfl⟩
        rw [← hb3, ← ho3] at HP3 ⊢
        clear hb3 ho3
        have HGE := Lib.hid hge
        clear hge
        have hbW : Below w3.heap.size w3 ((w3.drewN n0).drewN nq) := below_drewN (below_drewN (Below.refl _ _) n0) nq
        generalize (w3.drewN n0).drewN nq = W0 at hbW ⊢
        have hPW : Parts W0 (.slice (some ⟨b3, o3, none⟩) c.length ca3) c := SliceAt.below HP3.out hbW
        have hSW := H3.out.below' hbW
        have HBW := Lib.hid (HB3.out.trans (hbW.mono HB3.out.size))
        have hS1 := Parts.head hPW k hk
        have hS2 := Parts.rest hPW k hk (if ca3 = k then some ⟨b3, o3, none⟩ else some ⟨b3, o3 + k * 3, none⟩) (by
          by_cases e : ca3 = k
          · exact .inl (by omega)
          · exact .inr fun b o h => by
              simp only [Option.some.injEq, Addr.mk.injEq, and_true] at h
              obtain ⟨rfl, rfl⟩ := h
              exact if_neg e)
        have l1 : (c.take k).length ≤ 1000 := by rw [List.length_take]; omega
        have l2 : (c.drop k).length ≤ 1000 := by rw [List.length_drop]; omega
        have l3 : (c.take k ++ [(s, val)]).length ≤ 1000000 := by simp <;> omega
        -- the one way: the first append, then the new part
        obtain ⟨vA, wA, hA39, rA, bA⟩ := app_one (W := W0.drew) (SliceAt.below hS1 ((Below.refl _ W0).drew)) (by omega)
        have tA : Sits (wA.alloc (.cells #[.int .i64 s.1, .int .i64 s.2, .int .i64 val] 102)) wA.heap.size 102 #[.int .i64 s.1, .int .i64 s.2, .int .i64 val] := Sits.fresh wA _ _
        have aA : Below wA.heap.size wA (wA.alloc (.cells #[.int .i64 s.1, .int .i64 s.2, .int .i64 val] 102)) := (Below.refl _ wA).alloc (Nat.le_refl _) _
        obtain ⟨vA2, wA2, hA44, rA2, bA2⟩ := app_more (rA.below aA) (one_part (x := (s, val)) tA) (Nat.le_trans bA.size aA.size) (by omega) (by simp)
        have gA2 : Below W0.heap.size W0 wA2 := ((Below.refl _ W0).drew.trans (bA.trans (aA.mono bA.size))).trans bA2
        obtain ⟨vA3, wA3, hA48, rA3, bA3⟩ := app_more rA2 (SliceAt.below hS2 gA2) gA2.size l3 (by omega)
        -- the other way
        have aB : Below W0.heap.size W0 (W0.alloc (.cells #[.int .i64 s.1, .int .i64 s.2, .int .i64 val] 102)).drew := ((Below.refl _ W0).alloc (Nat.le_refl _) _).drew
        have tB0 : Sits (W0.alloc (.cells #[.int .i64 s.1, .int .i64 s.2, .int .i64 val] 102)).drew W0.heap.size 102 #[.int .i64 s.1, .int .i64 s.2, .int .i64 val] := (Sits.fresh W0 _ _).drew
        obtain ⟨vB, wB, hB39, rB, bB⟩ := app_one (W := (W0.alloc (.cells #[.int .i64 s.1, .int .i64 s.2, .int .i64 val] 102)).drew) (SliceAt.below hS1 aB) (by omega)
        have tB := tB0.below' bB
        obtain ⟨vB2, wB2, hB44, rB2, bB2⟩ := app_more rB (one_part (x := (s, val)) tB) bB.size (by omega) (by simp)
        have gB : Below W0.heap.size W0 wB := aB.trans (bB.mono aB.size)
        have gB2 : Below W0.heap.size W0 wB2 := gB.trans (bB2.mono aB.size)
        obtain ⟨vB3, wB3, hB48, rB3, bB3⟩ := app_more rB2 (SliceAt.below hS2 gB2) (Nat.le_trans bB.size bB2.size) l3 (by omega)
        have hEA : QRow wA3 W0.heap.size vA3 (c.take k ++ (s, val) :: c.drop k) := by
          have := rA3
          rw [List.append_assoc] at this
          exact this
        have hEB : QRow wB3 W0.heap.size vB3 (c.take k ++ (s, val) :: c.drop k) := by
          have := rB3.mono aB.size
          rw [List.append_assoc] at this
          exact this
        have hFA := gA2.trans bA3
        have hFB := gB2.trans (bB3.mono aB.size)
        have c40 := hSW.cell 0
        have c41 := hSW.cell 1
        have cA0 := (hSW.below' ((Below.refl _ W0).drew.trans bA)).cell 0
        have cA1 := (hSW.below' ((Below.refl _ W0).drew.trans bA)).cell 1
        simp at c40 c41 cA0 cA1
        obtain ⟨d, hd⟩ : ∃ d, d = c.take k ++ (s, val) :: c.drop k := ⟨_, rfl⟩
        rw [← hd] at hEA hEB
        have HPL := place_row HSO.out val HN.out (k := k) (by rw [← HC.out]; exact HBE.out) (by rw [← HC.out]; exact HGE.out)
        rw [← HC.out, ← hd] at HPL
        have HPL := Lib.hid HPL
        have HDL : Hid (d.length ≤ c.length + 1) := Lib.hid (by rw [hd]; simp <;> omega)
        refine with_keys (fun W6 (x : Value × Act) => QRow W6 W0.heap.size x.1 d ∧ Below W0.heap.size W0 W6 ∧ x.2.defers = [] ∧ x.2.tmps.size = 109 ∧ x.2.tmps.getD 8 undef = x.1) (fun x => x.2) ?_ ?_
        · rintro W6 ⟨v8, a6⟩ ⟨hr6, hb6, hd6, hsz6, h86⟩
          clear rA rA2 rA3 rB rB2 rB3 bA bA2 bA3 bB bB2 bB3 hA39 hA44 hA48 hB39 hB44 hB48 tA tB tB0 aA aB gA2 gB gB2 hEA hEB hFA hFB c40 c41 cA0 cA1 hS1 hS2 hPW hSW hd l1 l2 l3
          simp only at hr6 hd6 hsz6 h86
          dsimp only
          rw [open_actQ a6 hd6 hsz6]
          generalize hf : (fun n => a6.tmps.getD n undef) = f
          have g8 : f 8 = v8 := by rw [← hf]; exact h86
          clear hf hd6 hsz6 h86
          obtain ⟨A8, c8, rfl, m1, m2, m3⟩ := Parts.read hr6.parts
          have HD8 := Lib.hid m3
          have HB6 := Lib.hid (HBW.out.trans (hb6.mono HBW.out.size))
          have hdl : (d.length : Int) ≤ 1001 := by have := HDL.out; omega
          clear hr6 hb6 m3 hbW z0 z1
          unfold frameQ
          rw [g8]
          clear g8
          go_wp2_with fail
          go_loopw [9, 10] (fun r i wr => ∃ (j : Nat) (n : List Pt), i = .int .i64 j ∧ Weld d j n ∧ QRow wr W6.heap.size r n ∧ Below W6.heap.size W6 wr) (fun _ i _ => d.length - (intOf i).toNat)
          case atStart => exact ⟨0, [], rfl, Weld.start d, QRow.nil _ _, Below.refl _ _⟩
          case round =>
            obtain ⟨j, n, rfl, hWe, hR, hB⟩ := hrel
            have hjd := hWe.le
            have hnj := hWe.len
            by_cases hlt2 : j < d.length
            · obtain ⟨b8, o8, hA8, hb8, e0, e1, e2⟩ := HD8.out j hlt2
              subst hA8
              have e0 := (hB.cell (p := ⟨b8, o8 + j * 3, none⟩) hb8).trans e0
              have e1 := (hB.cell (p := ⟨b8, o8 + j * 3 + 1, none⟩) hb8).trans e1
              have e2 := (hB.cell (p := ⟨b8, o8 + j * 3 + 2, none⟩) hb8).trans e2
              obtain ⟨y, hy⟩ : ∃ y, y = d[j] := ⟨_, rfl⟩
              rw [← hy] at e0 e1 e2
              have HY := Lib.hid hy
              have hmore : (∀ p u, n = p ++ [u] → ¬ (u.1.2 = y.1.1 ∧ u.2 = y.2)) → Weld d (j + 1) (n ++ [y]) := fun h => by
                have := Weld.more HPL.out.1 hWe hlt2 (fun p u e => by rw [← HY.out]; exact h p u e)
                rwa [← HY.out] at this
              obtain ⟨AR, cr, rfl, q1, q2, q3, q6⟩ := hR.form
              rcases List.eq_nil_or_concat n with rfl | ⟨p, u, rfl⟩
              · have HN := Lib.hid (hmore (fun p u e => by cases p <;> simp at e))
                have HR5 := Lib.hid hR
                have HB5 := Lib.hid hB
                clear hWe hR hB hmore hy hb8 q3 q6
                go_wp2_with fail
                go_quiet (fail)
                obtain ⟨A9, c9, w9, hr9, hR9, hB9, -, -, -⟩ := pushQ_one (RowAt.keep HR5.out (w' := wr.drewN nq) fun _ _ => rfl) y HB5.out.size (by simp) 62
                have HR9 := Lib.hid hR9
                have HB9 := Lib.hid ((below_drewN HB5.out nq).trans hB9)
                clear hR9 hB9
                go_wp2_with (at_builtin; refine Lib.wpList_append_run _ rfl _ _ _ _ rfl _ _ rfl rfl _ _ hr9 ?_)
                go_roundw
                case rel => exact ⟨j + 1, _, by go_num, HN.out, HR9.out, HB9.out⟩
                case measure => simp [intOf]; omega
              · rw [List.concat_eq_append] at *
                obtain ⟨q, hq⟩ : ∃ q, q = p.length := ⟨_, rfl⟩
                obtain ⟨m, hm⟩ : ∃ m, m = (p ++ [u]).length := ⟨_, rfl⟩
                have hmq : m = q + 1 := by rw [hm, hq]; simp
                have HM := Lib.hid hm
                have HQ := Lib.hid hq
                obtain ⟨g, o, rfl⟩ := q3 (by simp)
                obtain ⟨A', cap', eA, -, -, hat⟩ := Parts.read hR.parts
                simp only [Value.slice.injEq, true_and] at eA
                obtain ⟨rfl, rfl⟩ := eA
                obtain ⟨b9, o9, e9, -, u0, u1, u2⟩ := hat q (by rw [← hm]; omega)
                simp only [Option.some.injEq, Addr.mk.injEq, and_true] at e9
                obtain ⟨rfl, rfl⟩ := e9
                have hux : (p ++ [u])[q]'(by rw [← hm]; omega) = u := by
                  simp only [hq, List.getElem_append_right (Nat.le_refl _), Nat.sub_self, List.getElem_cons_zero]
                rw [hux] at u0 u1 u2
                obtain ⟨q4, -, -, q5⟩ := q6 g o rfl
                have hfr := q5 (o + q * 3 + 1)
                have e3 : IntKind.i64.wrap ((m : Int) - 1) = (q : Int) := by rw [IntWalk.i64_in _ (by omega)]; omega
                have hqm : q < m := by omega
                have hm2 : 0 < m := by omega
                have hm0 : decide ((m : Int) > 0) = true := decide_eq_true (by omega)
                have hm1 : (m : Int) ≤ 1001 := by omega
                rw [← hm] at q1 hnj ⊢
                clear hm hux u0
                by_cases he : u.1.2 = y.1.1
                · have t1 : (u.1.2 == y.1.1) = true := beq_iff_eq.2 he
                  by_cases hv2 : u.2 = y.2
                  · have t2 : (u.2 == y.2) = true := beq_iff_eq.2 hv2
                    have HN := Lib.hid (Weld.join HPL.out.1 hWe hlt2 (by rw [← HY.out]; exact he) (by rw [← HY.out]; exact hv2))
                    rw [← hy] at HN
                    have HR5 := Lib.hid hR
                    have HB5 := Lib.hid hB
                    have HQ4 := Lib.hid q4
                    clear hWe hR hB hmore hy hb8 q3 q4 q5 q6 hat hq hmq he hv2
                    go_wp2_with fail
                    go_quiet (fail)
                    have HR6 : Hid (QRow ((wr.drewN nq).setCell ⟨g, o + q * 3 + 1, none⟩ (.int .i64 y.1.2)) W6.heap.size (.slice (some ⟨g, o, none⟩) m cr) (p ++ [((u.1.1, y.1.2), u.2)])) := Lib.hid (by
                      have h1 : QRow (wr.drewN nq) W6.heap.size (.slice (some ⟨g, o, none⟩) (p.length + 1) cr) (p ++ [u]) := by
                        have := HR5.out
                        rw [show (p ++ [u]).length = p.length + 1 by simp] at this
                        exact RowAt.keep this (w' := wr.drewN nq) fun _ _ => rfl
                      have h2 := h1.set y.1.2
                      rw [HM.out, HQ.out, show (p ++ [u]).length = p.length + 1 by simp]
                      exact h2)
                    have HB6 := Lib.hid (below_put (below_drewN HB5.out nq) HQ4.out (o + q * 3 + 1) (.int .i64 y.1.2))
                    go_wp2
                    go_roundw
                    case rel => exact ⟨j + 1, _, by go_num, HN.out, HR6.out, HB6.out⟩
                    case measure => simp [intOf]; omega
                  · have t2 : (u.2 == y.2) = false := beq_eq_false_iff_ne.2 hv2
                    have HN := Lib.hid (hmore (fun p' u' e => by
                      obtain ⟨rfl, e2⟩ := List.append_inj' e rfl
                      simp only [List.cons.injEq, and_true] at e2
                      subst e2
                      exact fun h => hv2 h.2))
                    have HR5 := Lib.hid hR
                    have HB5 := Lib.hid hB
                    clear hWe hR hB hmore hy hb8 q3 q4 hat hq hmq he hv2 q5 q6
                    go_wp2_with fail
                    go_quiet (fail)
                    obtain ⟨A9, c9, w9, hr9, hR9, hB9, -, -, -⟩ := pushQ_one (RowAt.keep HR5.out (w' := wr.drewN nq) fun _ _ => rfl) y HB5.out.size (by rw [← HM.out]; omega) 62
                    rw [← HM.out] at hr9 hR9
                    have HR9 := Lib.hid hR9
                    have HB9 := Lib.hid ((below_drewN HB5.out nq).trans hB9)
                    clear hR9 hB9
                    go_wp2_with (at_builtin; refine Lib.wpList_append_run _ rfl _ _ _ _ rfl _ _ rfl rfl _ _ hr9 ?_)
                    go_roundw
                    case rel => exact ⟨j + 1, _, by go_num, HN.out, HR9.out, HB9.out⟩
                    case measure => simp [intOf]; omega
                · have t1 : (u.1.2 == y.1.1) = false := beq_eq_false_iff_ne.2 he
                  have HN := Lib.hid (hmore (fun p' u' e => by
                    obtain ⟨rfl, e2⟩ := List.append_inj' e rfl
                    simp only [List.cons.injEq, and_true] at e2
                    subst e2
                    exact fun h => he h.1))
                  have HR5 := Lib.hid hR
                  have HB5 := Lib.hid hB
                  clear hWe hR hB hmore hy hb8 q3 q4 hat hq hmq he q5 q6
                  go_wp2_with fail
                  go_quiet (fail)
                  obtain ⟨A9, c9, w9, hr9, hR9, hB9, -, -, -⟩ := pushQ_one (RowAt.keep HR5.out (w' := wr.drewN nq) fun _ _ => rfl) y HB5.out.size (by rw [← HM.out]; omega) 62
                  rw [← HM.out] at hr9 hR9
                  have HR9 := Lib.hid hR9
                  have HB9 := Lib.hid ((below_drewN HB5.out nq).trans hB9)
                  clear hR9 hB9
                  go_wp2_with (at_builtin; refine Lib.wpList_append_run _ rfl _ _ _ _ rfl _ _ rfl rfl _ _ hr9 ?_)
                  go_roundw
                  case rel => exact ⟨j + 1, _, by go_num, HN.out, HR9.out, HB9.out⟩
                  case measure => simp [intOf]; omega
            · obtain rfl : j = d.length := by omega
              have HM : Hid (MapOf n (fun b u => (Has s b ∧ val = u) ∨ (Val l b u ∧ ¬ Has s b))) := Lib.hid ⟨hWe.norm, fun b u => by rw [hWe.val b u, List.take_length]; exact HPL.out.2 b u⟩
              have HR9 := Lib.hid hR
              have HB9 := Lib.hid (HB6.out.trans (hB.mono HB6.out.size))
              have HLN : Hid (n.length ≤ l.length + 2) := Lib.hid (by have := HDL.out; have := HCL.out; omega)
              obtain ⟨AR, cr, rfl, -, -, -, -⟩ := hR.form
              clear hWe hR hB
              go_wp2
              go_ret
              exact ⟨_, n, rfl, HR9.out.mono (Nat.zero_le _), HM.out, HLN.out, HB9.out⟩
        intro key
        clear hd
        have hk3 : k ≤ ca3 := by omega
        go_region_law (first
          | (refine step_append_eq rfl (.const (.slice none 0 0)) (.tmp 38) 62 62 rfl _ _ _ (by simp [Act.eval, Act.put]) (by simp [Act.eval, Act.put]) hA39 ?_)
          | (refine step_append_eq rfl (.const (.slice none 0 0)) (.tmp 38) 62 62 rfl _ _ _ (by simp [Act.eval, Act.put]) (by simp [Act.eval, Act.put]) hB39 ?_)
          | (refine step_append_eq rfl (.tmp 39) (.tmp 43) 62 62 rfl _ _ _ (by simp [Act.eval, Act.put]) (by simp [Act.eval, Act.put]) hA44 ?_)
          | (refine step_append_eq rfl (.tmp 39) (.tmp 43) 62 62 rfl _ _ _ (by simp [Act.eval, Act.put]) (by simp [Act.eval, Act.put]) hB44 ?_)
          | (refine step_append_eq rfl (.tmp 44) (.tmp 47) 62 62 rfl _ _ _ (by simp [Act.eval, Act.put]) (by simp [Act.eval, Act.put]) hA48 ?_)
          | (refine step_append_eq rfl (.tmp 44) (.tmp 47) 62 62 rfl _ _ _ (by simp [Act.eval, Act.put]) (by simp [Act.eval, Act.put]) hB48 ?_))
        all_goals
          first
          | exact key wA3 (vA3, _) ⟨hEA, hFA, rfl, rfl, rfl⟩
          | exact key wB3 (vB3, _) ⟨hEB, hFB, rfl, rfl, rfl⟩
    · obtain rfl : k = c.length := by omega
      have hge : ∀ y ∈ c.drop c.length, s.1 ≤ y.1.1 := by simp
      rcases HNIL.out with e | ⟨b3, o3, ca4, e⟩
      · simp only [Value.slice.injEq] at e
        obtain ⟨rfl, hc0, rfl⟩ := e
        obtain rfl : c = [] := List.eq_nil_of_length_eq_zero hc0
        clear hc0
        go_wp2
        go_quiet (fail)
        go_wp2_with fail
        have HGE := Lib.hid hge
        clear hge
        have hbW : Below w3.heap.size w3 ((w3.drewN n0).drewN nq) := below_drewN (below_drewN (Below.refl _ _) n0) nq
        generalize (w3.drewN n0).drewN nq = W0 at hbW ⊢
        have hS1 : Parts W0 (.slice none 0 0) (([] : List Pt).take 0) := SliceAt.nil _ _ _
        have hS2 : Parts W0 (.slice none 0 0) (([] : List Pt).drop 0) := SliceAt.nil _ _ _
        have hSW := H3.out.below' hbW
        have HBW := Lib.hid (HB3.out.trans (hbW.mono HB3.out.size))
        have l1 : (([] : List Pt).take 0).length ≤ 1000 := by rw [List.length_take]; omega
        have l2 : (([] : List Pt).drop 0).length ≤ 1000 := by rw [List.length_drop]; omega
        have l3 : (([] : List Pt).take 0 ++ [(s, val)]).length ≤ 1000000 := by simp <;> omega
        -- the one way: the first append, then the new part
        obtain ⟨vA, wA, hA39, rA, bA⟩ := app_one (W := W0.drew) (SliceAt.below hS1 ((Below.refl _ W0).drew)) (by omega)
        have tA : Sits (wA.alloc (.cells #[.int .i64 s.1, .int .i64 s.2, .int .i64 val] 102)) wA.heap.size 102 #[.int .i64 s.1, .int .i64 s.2, .int .i64 val] := Sits.fresh wA _ _
        have aA : Below wA.heap.size wA (wA.alloc (.cells #[.int .i64 s.1, .int .i64 s.2, .int .i64 val] 102)) := (Below.refl _ wA).alloc (Nat.le_refl _) _
        obtain ⟨vA2, wA2, hA44, rA2, bA2⟩ := app_more (rA.below aA) (one_part (x := (s, val)) tA) (Nat.le_trans bA.size aA.size) (by omega) (by simp)
        have gA2 : Below W0.heap.size W0 wA2 := ((Below.refl _ W0).drew.trans (bA.trans (aA.mono bA.size))).trans bA2
        obtain ⟨vA3, wA3, hA48, rA3, bA3⟩ := app_more rA2 (SliceAt.below hS2 gA2) gA2.size l3 (by omega)
        -- the other way
        have aB : Below W0.heap.size W0 (W0.alloc (.cells #[.int .i64 s.1, .int .i64 s.2, .int .i64 val] 102)).drew := ((Below.refl _ W0).alloc (Nat.le_refl _) _).drew
        have tB0 : Sits (W0.alloc (.cells #[.int .i64 s.1, .int .i64 s.2, .int .i64 val] 102)).drew W0.heap.size 102 #[.int .i64 s.1, .int .i64 s.2, .int .i64 val] := (Sits.fresh W0 _ _).drew
        obtain ⟨vB, wB, hB39, rB, bB⟩ := app_one (W := (W0.alloc (.cells #[.int .i64 s.1, .int .i64 s.2, .int .i64 val] 102)).drew) (SliceAt.below hS1 aB) (by omega)
        have tB := tB0.below' bB
        obtain ⟨vB2, wB2, hB44, rB2, bB2⟩ := app_more rB (one_part (x := (s, val)) tB) bB.size (by omega) (by simp)
        have gB : Below W0.heap.size W0 wB := aB.trans (bB.mono aB.size)
        have gB2 : Below W0.heap.size W0 wB2 := gB.trans (bB2.mono aB.size)
        obtain ⟨vB3, wB3, hB48, rB3, bB3⟩ := app_more rB2 (SliceAt.below hS2 gB2) (Nat.le_trans bB.size bB2.size) l3 (by omega)
        have hEA : QRow wA3 W0.heap.size vA3 (([] : List Pt).take 0 ++ (s, val) :: ([] : List Pt).drop 0) := by
          have := rA3
          rw [List.append_assoc] at this
          exact this
        have hEB : QRow wB3 W0.heap.size vB3 (([] : List Pt).take 0 ++ (s, val) :: ([] : List Pt).drop 0) := by
          have := rB3.mono aB.size
          rw [List.append_assoc] at this
          exact this
        have hFA := gA2.trans bA3
        have hFB := gB2.trans (bB3.mono aB.size)
        have c40 := hSW.cell 0
        have c41 := hSW.cell 1
        have cA0 := (hSW.below' ((Below.refl _ W0).drew.trans bA)).cell 0
        have cA1 := (hSW.below' ((Below.refl _ W0).drew.trans bA)).cell 1
        simp at c40 c41 cA0 cA1
        obtain ⟨d, hd⟩ : ∃ d, d = ([] : List Pt).take 0 ++ (s, val) :: ([] : List Pt).drop 0 := ⟨_, rfl⟩
        rw [← hd] at hEA hEB
        have HPL := place_row HSO.out val HN.out (k := 0) (by rw [← HC.out]; exact HBE.out) (by rw [← HC.out]; exact HGE.out)
        rw [← HC.out, ← hd] at HPL
        have HPL := Lib.hid HPL
        have HDL : Hid (d.length ≤ ([] : List Pt).length + 1) := Lib.hid (by rw [hd]; simp <;> omega)
        refine with_keys (fun W6 (x : Value × Act) => QRow W6 W0.heap.size x.1 d ∧ Below W0.heap.size W0 W6 ∧ x.2.defers = [] ∧ x.2.tmps.size = 109 ∧ x.2.tmps.getD 8 undef = x.1) (fun x => x.2) ?_ ?_
        · rintro W6 ⟨v8, a6⟩ ⟨hr6, hb6, hd6, hsz6, h86⟩
          clear rA rA2 rA3 rB rB2 rB3 bA bA2 bA3 bB bB2 bB3 hA39 hA44 hA48 hB39 hB44 hB48 tA tB tB0 aA aB gA2 gB gB2 hEA hEB hFA hFB c40 c41 cA0 cA1 hS1 hS2 hSW hd l1 l2 l3
          simp only at hr6 hd6 hsz6 h86
          dsimp only
          rw [open_actQ a6 hd6 hsz6]
          generalize hf : (fun n => a6.tmps.getD n undef) = f
          have g8 : f 8 = v8 := by rw [← hf]; exact h86
          clear hf hd6 hsz6 h86
          obtain ⟨A8, c8, rfl, m1, m2, m3⟩ := Parts.read hr6.parts
          have HD8 := Lib.hid m3
          have HB6 := Lib.hid (HBW.out.trans (hb6.mono HBW.out.size))
          have hdl : (d.length : Int) ≤ 1001 := by have := HDL.out; omega
          clear hr6 hb6 m3 hbW z0 z1
          unfold frameQ
          rw [g8]
          clear g8
          go_wp2_with fail
          go_loopw [9, 10] (fun r i wr => ∃ (j : Nat) (n : List Pt), i = .int .i64 j ∧ Weld d j n ∧ QRow wr W6.heap.size r n ∧ Below W6.heap.size W6 wr) (fun _ i _ => d.length - (intOf i).toNat)
          case atStart => exact ⟨0, [], rfl, Weld.start d, QRow.nil _ _, Below.refl _ _⟩
          case round =>
            obtain ⟨j, n, rfl, hWe, hR, hB⟩ := hrel
            have hjd := hWe.le
            have hnj := hWe.len
            by_cases hlt2 : j < d.length
            · obtain ⟨b8, o8, hA8, hb8, e0, e1, e2⟩ := HD8.out j hlt2
              subst hA8
              have e0 := (hB.cell (p := ⟨b8, o8 + j * 3, none⟩) hb8).trans e0
              have e1 := (hB.cell (p := ⟨b8, o8 + j * 3 + 1, none⟩) hb8).trans e1
              have e2 := (hB.cell (p := ⟨b8, o8 + j * 3 + 2, none⟩) hb8).trans e2
              obtain ⟨y, hy⟩ : ∃ y, y = d[j] := ⟨_, rfl⟩
              rw [← hy] at e0 e1 e2
              have HY := Lib.hid hy
              have hmore : (∀ p u, n = p ++ [u] → ¬ (u.1.2 = y.1.1 ∧ u.2 = y.2)) → Weld d (j + 1) (n ++ [y]) := fun h => by
                have := Weld.more HPL.out.1 hWe hlt2 (fun p u e => by rw [← HY.out]; exact h p u e)
                rwa [← HY.out] at this
              obtain ⟨AR, cr, rfl, q1, q2, q3, q6⟩ := hR.form
              rcases List.eq_nil_or_concat n with rfl | ⟨p, u, rfl⟩
              · have HN := Lib.hid (hmore (fun p u e => by cases p <;> simp at e))
                have HR5 := Lib.hid hR
                have HB5 := Lib.hid hB
                clear hWe hR hB hmore hy hb8 q3 q6
                go_wp2_with fail
                go_quiet (fail)
                obtain ⟨A9, c9, w9, hr9, hR9, hB9, -, -, -⟩ := pushQ_one (RowAt.keep HR5.out (w' := wr.drewN nq) fun _ _ => rfl) y HB5.out.size (by simp) 62
                have HR9 := Lib.hid hR9
                have HB9 := Lib.hid ((below_drewN HB5.out nq).trans hB9)
                clear hR9 hB9
                go_wp2_with (at_builtin; refine Lib.wpList_append_run _ rfl _ _ _ _ rfl _ _ rfl rfl _ _ hr9 ?_)
                go_roundw
                case rel => exact ⟨j + 1, _, by go_num, HN.out, HR9.out, HB9.out⟩
                case measure => simp [intOf]; omega
              · rw [List.concat_eq_append] at *
                obtain ⟨q, hq⟩ : ∃ q, q = p.length := ⟨_, rfl⟩
                obtain ⟨m, hm⟩ : ∃ m, m = (p ++ [u]).length := ⟨_, rfl⟩
                have hmq : m = q + 1 := by rw [hm, hq]; simp
                have HM := Lib.hid hm
                have HQ := Lib.hid hq
                obtain ⟨g, o, rfl⟩ := q3 (by simp)
                obtain ⟨A', cap', eA, -, -, hat⟩ := Parts.read hR.parts
                simp only [Value.slice.injEq, true_and] at eA
                obtain ⟨rfl, rfl⟩ := eA
                obtain ⟨b9, o9, e9, -, u0, u1, u2⟩ := hat q (by rw [← hm]; omega)
                simp only [Option.some.injEq, Addr.mk.injEq, and_true] at e9
                obtain ⟨rfl, rfl⟩ := e9
                have hux : (p ++ [u])[q]'(by rw [← hm]; omega) = u := by
                  simp only [hq, List.getElem_append_right (Nat.le_refl _), Nat.sub_self, List.getElem_cons_zero]
                rw [hux] at u0 u1 u2
                obtain ⟨q4, -, -, q5⟩ := q6 g o rfl
                have hfr := q5 (o + q * 3 + 1)
                have e3 : IntKind.i64.wrap ((m : Int) - 1) = (q : Int) := by rw [IntWalk.i64_in _ (by omega)]; omega
                have hqm : q < m := by omega
                have hm2 : 0 < m := by omega
                have hm0 : decide ((m : Int) > 0) = true := decide_eq_true (by omega)
                have hm1 : (m : Int) ≤ 1001 := by omega
                rw [← hm] at q1 hnj ⊢
                clear hm hux u0
                by_cases he : u.1.2 = y.1.1
                · have t1 : (u.1.2 == y.1.1) = true := beq_iff_eq.2 he
                  by_cases hv2 : u.2 = y.2
                  · have t2 : (u.2 == y.2) = true := beq_iff_eq.2 hv2
                    have HN := Lib.hid (Weld.join HPL.out.1 hWe hlt2 (by rw [← HY.out]; exact he) (by rw [← HY.out]; exact hv2))
                    rw [← hy] at HN
                    have HR5 := Lib.hid hR
                    have HB5 := Lib.hid hB
                    have HQ4 := Lib.hid q4
                    clear hWe hR hB hmore hy hb8 q3 q4 q5 q6 hat hq hmq he hv2
                    go_wp2_with fail
                    go_quiet (fail)
                    have HR6 : Hid (QRow ((wr.drewN nq).setCell ⟨g, o + q * 3 + 1, none⟩ (.int .i64 y.1.2)) W6.heap.size (.slice (some ⟨g, o, none⟩) m cr) (p ++ [((u.1.1, y.1.2), u.2)])) := Lib.hid (by
                      have h1 : QRow (wr.drewN nq) W6.heap.size (.slice (some ⟨g, o, none⟩) (p.length + 1) cr) (p ++ [u]) := by
                        have := HR5.out
                        rw [show (p ++ [u]).length = p.length + 1 by simp] at this
                        exact RowAt.keep this (w' := wr.drewN nq) fun _ _ => rfl
                      have h2 := h1.set y.1.2
                      rw [HM.out, HQ.out, show (p ++ [u]).length = p.length + 1 by simp]
                      exact h2)
                    have HB6 := Lib.hid (below_put (below_drewN HB5.out nq) HQ4.out (o + q * 3 + 1) (.int .i64 y.1.2))
                    go_wp2
                    go_roundw
                    case rel => exact ⟨j + 1, _, by go_num, HN.out, HR6.out, HB6.out⟩
                    case measure => simp [intOf]; omega
                  · have t2 : (u.2 == y.2) = false := beq_eq_false_iff_ne.2 hv2
                    have HN := Lib.hid (hmore (fun p' u' e => by
                      obtain ⟨rfl, e2⟩ := List.append_inj' e rfl
                      simp only [List.cons.injEq, and_true] at e2
                      subst e2
                      exact fun h => hv2 h.2))
                    have HR5 := Lib.hid hR
                    have HB5 := Lib.hid hB
                    clear hWe hR hB hmore hy hb8 q3 q4 hat hq hmq he hv2 q5 q6
                    go_wp2_with fail
                    go_quiet (fail)
                    obtain ⟨A9, c9, w9, hr9, hR9, hB9, -, -, -⟩ := pushQ_one (RowAt.keep HR5.out (w' := wr.drewN nq) fun _ _ => rfl) y HB5.out.size (by rw [← HM.out]; omega) 62
                    rw [← HM.out] at hr9 hR9
                    have HR9 := Lib.hid hR9
                    have HB9 := Lib.hid ((below_drewN HB5.out nq).trans hB9)
                    clear hR9 hB9
                    go_wp2_with (at_builtin; refine Lib.wpList_append_run _ rfl _ _ _ _ rfl _ _ rfl rfl _ _ hr9 ?_)
                    go_roundw
                    case rel => exact ⟨j + 1, _, by go_num, HN.out, HR9.out, HB9.out⟩
                    case measure => simp [intOf]; omega
                · have t1 : (u.1.2 == y.1.1) = false := beq_eq_false_iff_ne.2 he
                  have HN := Lib.hid (hmore (fun p' u' e => by
                    obtain ⟨rfl, e2⟩ := List.append_inj' e rfl
                    simp only [List.cons.injEq, and_true] at e2
                    subst e2
                    exact fun h => he h.1))
                  have HR5 := Lib.hid hR
                  have HB5 := Lib.hid hB
                  clear hWe hR hB hmore hy hb8 q3 q4 hat hq hmq he q5 q6
                  go_wp2_with fail
                  go_quiet (fail)
                  obtain ⟨A9, c9, w9, hr9, hR9, hB9, -, -, -⟩ := pushQ_one (RowAt.keep HR5.out (w' := wr.drewN nq) fun _ _ => rfl) y HB5.out.size (by rw [← HM.out]; omega) 62
                  rw [← HM.out] at hr9 hR9
                  have HR9 := Lib.hid hR9
                  have HB9 := Lib.hid ((below_drewN HB5.out nq).trans hB9)
                  clear hR9 hB9
                  go_wp2_with (at_builtin; refine Lib.wpList_append_run _ rfl _ _ _ _ rfl _ _ rfl rfl _ _ hr9 ?_)
                  go_roundw
                  case rel => exact ⟨j + 1, _, by go_num, HN.out, HR9.out, HB9.out⟩
                  case measure => simp [intOf]; omega
            · obtain rfl : j = d.length := by omega
              have HM : Hid (MapOf n (fun b u => (Has s b ∧ val = u) ∨ (Val l b u ∧ ¬ Has s b))) := Lib.hid ⟨hWe.norm, fun b u => by rw [hWe.val b u, List.take_length]; exact HPL.out.2 b u⟩
              have HR9 := Lib.hid hR
              have HB9 := Lib.hid (HB6.out.trans (hB.mono HB6.out.size))
              have HLN : Hid (n.length ≤ l.length + 2) := Lib.hid (by have := HDL.out; have := HCL.out; omega)
              obtain ⟨AR, cr, rfl, -, -, -, -⟩ := hR.form
              clear hWe hR hB
              go_wp2
              go_ret
              exact ⟨_, n, rfl, HR9.out.mono (Nat.zero_le _), HM.out, HLN.out, HB9.out⟩
        intro key
        clear hd
        go_region_law (first
          | (refine step_append_eq rfl (.const (.slice none 0 0)) (.tmp 38) 62 62 rfl _ _ _ (by simp [Act.eval, Act.put]) (by simp [Act.eval, Act.put]) hA39 ?_)
          | (refine step_append_eq rfl (.const (.slice none 0 0)) (.tmp 38) 62 62 rfl _ _ _ (by simp [Act.eval, Act.put]) (by simp [Act.eval, Act.put]) hB39 ?_)
          | (refine step_append_eq rfl (.tmp 39) (.tmp 43) 62 62 rfl _ _ _ (by simp [Act.eval, Act.put]) (by simp [Act.eval, Act.put]) hA44 ?_)
          | (refine step_append_eq rfl (.tmp 39) (.tmp 43) 62 62 rfl _ _ _ (by simp [Act.eval, Act.put]) (by simp [Act.eval, Act.put]) hB44 ?_)
          | (refine step_append_eq rfl (.tmp 44) (.tmp 47) 62 62 rfl _ _ _ (by simp [Act.eval, Act.put]) (by simp [Act.eval, Act.put]) hA48 ?_)
          | (refine step_append_eq rfl (.tmp 44) (.tmp 47) 62 62 rfl _ _ _ (by simp [Act.eval, Act.put]) (by simp [Act.eval, Act.put]) hB48 ?_))
        all_goals
          first
          | exact key wA3 (vA3, _) ⟨hEA, hFA, rfl, rfl, rfl⟩
          | exact key wB3 (vB3, _) ⟨hEB, hFB, rfl, rfl, rfl⟩
      · simp only [Value.slice.injEq, true_and] at e
        obtain ⟨rfl, rfl⟩ := e
        go_wp2
        go_quiet (fail)
        go_wp2_with fail
        have HGE := Lib.hid hge
        clear hge
        have hbW : Below w3.heap.size w3 ((w3.drewN n0).drewN nq) := below_drewN (below_drewN (Below.refl _ _) n0) nq
        generalize (w3.drewN n0).drewN nq = W0 at hbW ⊢
        have hPW : Parts W0 (.slice (some ⟨b3, o3, none⟩) c.length ca3) c := SliceAt.below HP3.out hbW
        have hSW := H3.out.below' hbW
        have HBW := Lib.hid (HB3.out.trans (hbW.mono HB3.out.size))
        have hS1 := Parts.head hPW c.length hk
        have hS2 := Parts.rest hPW c.length hk (if ca3 = c.length then some ⟨b3, o3, none⟩ else some ⟨b3, o3 + c.length * 3, none⟩) (by
          by_cases e : ca3 = c.length
          · exact .inl (by omega)
          · exact .inr fun b o h => by
              simp only [Option.some.injEq, Addr.mk.injEq, and_true] at h
              obtain ⟨rfl, rfl⟩ := h
              exact if_neg e)
        have l1 : (c.take c.length).length ≤ 1000 := by rw [List.length_take]; omega
        have l2 : (c.drop c.length).length ≤ 1000 := by rw [List.length_drop]; omega
        have l3 : (c.take c.length ++ [(s, val)]).length ≤ 1000000 := by simp <;> omega
        -- the one way: the first append, then the new part
        obtain ⟨vA, wA, hA39, rA, bA⟩ := app_one (W := W0.drew) (SliceAt.below hS1 ((Below.refl _ W0).drew)) (by omega)
        have tA : Sits (wA.alloc (.cells #[.int .i64 s.1, .int .i64 s.2, .int .i64 val] 102)) wA.heap.size 102 #[.int .i64 s.1, .int .i64 s.2, .int .i64 val] := Sits.fresh wA _ _
        have aA : Below wA.heap.size wA (wA.alloc (.cells #[.int .i64 s.1, .int .i64 s.2, .int .i64 val] 102)) := (Below.refl _ wA).alloc (Nat.le_refl _) _
        obtain ⟨vA2, wA2, hA44, rA2, bA2⟩ := app_more (rA.below aA) (one_part (x := (s, val)) tA) (Nat.le_trans bA.size aA.size) (by omega) (by simp)
        have gA2 : Below W0.heap.size W0 wA2 := ((Below.refl _ W0).drew.trans (bA.trans (aA.mono bA.size))).trans bA2
        obtain ⟨vA3, wA3, hA48, rA3, bA3⟩ := app_more rA2 (SliceAt.below hS2 gA2) gA2.size l3 (by omega)
        -- the other way
        have aB : Below W0.heap.size W0 (W0.alloc (.cells #[.int .i64 s.1, .int .i64 s.2, .int .i64 val] 102)).drew := ((Below.refl _ W0).alloc (Nat.le_refl _) _).drew
        have tB0 : Sits (W0.alloc (.cells #[.int .i64 s.1, .int .i64 s.2, .int .i64 val] 102)).drew W0.heap.size 102 #[.int .i64 s.1, .int .i64 s.2, .int .i64 val] := (Sits.fresh W0 _ _).drew
        obtain ⟨vB, wB, hB39, rB, bB⟩ := app_one (W := (W0.alloc (.cells #[.int .i64 s.1, .int .i64 s.2, .int .i64 val] 102)).drew) (SliceAt.below hS1 aB) (by omega)
        have tB := tB0.below' bB
        obtain ⟨vB2, wB2, hB44, rB2, bB2⟩ := app_more rB (one_part (x := (s, val)) tB) bB.size (by omega) (by simp)
        have gB : Below W0.heap.size W0 wB := aB.trans (bB.mono aB.size)
        have gB2 : Below W0.heap.size W0 wB2 := gB.trans (bB2.mono aB.size)
        obtain ⟨vB3, wB3, hB48, rB3, bB3⟩ := app_more rB2 (SliceAt.below hS2 gB2) (Nat.le_trans bB.size bB2.size) l3 (by omega)
        have hEA : QRow wA3 W0.heap.size vA3 (c.take c.length ++ (s, val) :: c.drop c.length) := by
          have := rA3
          rw [List.append_assoc] at this
          exact this
        have hEB : QRow wB3 W0.heap.size vB3 (c.take c.length ++ (s, val) :: c.drop c.length) := by
          have := rB3.mono aB.size
          rw [List.append_assoc] at this
          exact this
        have hFA := gA2.trans bA3
        have hFB := gB2.trans (bB3.mono aB.size)
        have c40 := hSW.cell 0
        have c41 := hSW.cell 1
        have cA0 := (hSW.below' ((Below.refl _ W0).drew.trans bA)).cell 0
        have cA1 := (hSW.below' ((Below.refl _ W0).drew.trans bA)).cell 1
        simp at c40 c41 cA0 cA1
        obtain ⟨d, hd⟩ : ∃ d, d = c.take c.length ++ (s, val) :: c.drop c.length := ⟨_, rfl⟩
        rw [← hd] at hEA hEB
        have HPL := place_row HSO.out val HN.out (k := c.length) (by rw [← HC.out]; exact HBE.out) (by rw [← HC.out]; exact HGE.out)
        rw [← HC.out, ← hd] at HPL
        have HPL := Lib.hid HPL
        have HDL : Hid (d.length ≤ c.length + 1) := Lib.hid (by rw [hd]; simp <;> omega)
        refine with_keys (fun W6 (x : Value × Act) => QRow W6 W0.heap.size x.1 d ∧ Below W0.heap.size W0 W6 ∧ x.2.defers = [] ∧ x.2.tmps.size = 109 ∧ x.2.tmps.getD 8 undef = x.1) (fun x => x.2) ?_ ?_
        · rintro W6 ⟨v8, a6⟩ ⟨hr6, hb6, hd6, hsz6, h86⟩
          clear rA rA2 rA3 rB rB2 rB3 bA bA2 bA3 bB bB2 bB3 hA39 hA44 hA48 hB39 hB44 hB48 tA tB tB0 aA aB gA2 gB gB2 hEA hEB hFA hFB c40 c41 cA0 cA1 hS1 hS2 hPW hSW hd l1 l2 l3
          simp only at hr6 hd6 hsz6 h86
          dsimp only
          rw [open_actQ a6 hd6 hsz6]
          generalize hf : (fun n => a6.tmps.getD n undef) = f
          have g8 : f 8 = v8 := by rw [← hf]; exact h86
          clear hf hd6 hsz6 h86
          obtain ⟨A8, c8, rfl, m1, m2, m3⟩ := Parts.read hr6.parts
          have HD8 := Lib.hid m3
          have HB6 := Lib.hid (HBW.out.trans (hb6.mono HBW.out.size))
          have hdl : (d.length : Int) ≤ 1001 := by have := HDL.out; omega
          clear hr6 hb6 m3 hbW z0 z1
          unfold frameQ
          rw [g8]
          clear g8
          go_wp2_with fail
          go_loopw [9, 10] (fun r i wr => ∃ (j : Nat) (n : List Pt), i = .int .i64 j ∧ Weld d j n ∧ QRow wr W6.heap.size r n ∧ Below W6.heap.size W6 wr) (fun _ i _ => d.length - (intOf i).toNat)
          case atStart => exact ⟨0, [], rfl, Weld.start d, QRow.nil _ _, Below.refl _ _⟩
          case round =>
            obtain ⟨j, n, rfl, hWe, hR, hB⟩ := hrel
            have hjd := hWe.le
            have hnj := hWe.len
            by_cases hlt2 : j < d.length
            · obtain ⟨b8, o8, hA8, hb8, e0, e1, e2⟩ := HD8.out j hlt2
              subst hA8
              have e0 := (hB.cell (p := ⟨b8, o8 + j * 3, none⟩) hb8).trans e0
              have e1 := (hB.cell (p := ⟨b8, o8 + j * 3 + 1, none⟩) hb8).trans e1
              have e2 := (hB.cell (p := ⟨b8, o8 + j * 3 + 2, none⟩) hb8).trans e2
              obtain ⟨y, hy⟩ : ∃ y, y = d[j] := ⟨_, rfl⟩
              rw [← hy] at e0 e1 e2
              have HY := Lib.hid hy
              have hmore : (∀ p u, n = p ++ [u] → ¬ (u.1.2 = y.1.1 ∧ u.2 = y.2)) → Weld d (j + 1) (n ++ [y]) := fun h => by
                have := Weld.more HPL.out.1 hWe hlt2 (fun p u e => by rw [← HY.out]; exact h p u e)
                rwa [← HY.out] at this
              obtain ⟨AR, cr, rfl, q1, q2, q3, q6⟩ := hR.form
              rcases List.eq_nil_or_concat n with rfl | ⟨p, u, rfl⟩
              · have HN := Lib.hid (hmore (fun p u e => by cases p <;> simp at e))
                have HR5 := Lib.hid hR
                have HB5 := Lib.hid hB
                clear hWe hR hB hmore hy hb8 q3 q6
                go_wp2_with fail
                go_quiet (fail)
                obtain ⟨A9, c9, w9, hr9, hR9, hB9, -, -, -⟩ := pushQ_one (RowAt.keep HR5.out (w' := wr.drewN nq) fun _ _ => rfl) y HB5.out.size (by simp) 62
                have HR9 := Lib.hid hR9
                have HB9 := Lib.hid ((below_drewN HB5.out nq).trans hB9)
                clear hR9 hB9
                go_wp2_with (at_builtin; refine Lib.wpList_append_run _ rfl _ _ _ _ rfl _ _ rfl rfl _ _ hr9 ?_)
                go_roundw
                case rel => exact ⟨j + 1, _, by go_num, HN.out, HR9.out, HB9.out⟩
                case measure => simp [intOf]; omega
              · rw [List.concat_eq_append] at *
                obtain ⟨q, hq⟩ : ∃ q, q = p.length := ⟨_, rfl⟩
                obtain ⟨m, hm⟩ : ∃ m, m = (p ++ [u]).length := ⟨_, rfl⟩
                have hmq : m = q + 1 := by rw [hm, hq]; simp
                have HM := Lib.hid hm
                have HQ := Lib.hid hq
                obtain ⟨g, o, rfl⟩ := q3 (by simp)
                obtain ⟨A', cap', eA, -, -, hat⟩ := Parts.read hR.parts
                simp only [Value.slice.injEq, true_and] at eA
                obtain ⟨rfl, rfl⟩ := eA
                obtain ⟨b9, o9, e9, -, u0, u1, u2⟩ := hat q (by rw [← hm]; omega)
                simp only [Option.some.injEq, Addr.mk.injEq, and_true] at e9
                obtain ⟨rfl, rfl⟩ := e9
                have hux : (p ++ [u])[q]'(by rw [← hm]; omega) = u := by
                  simp only [hq, List.getElem_append_right (Nat.le_refl _), Nat.sub_self, List.getElem_cons_zero]
                rw [hux] at u0 u1 u2
                obtain ⟨q4, -, -, q5⟩ := q6 g o rfl
                have hfr := q5 (o + q * 3 + 1)
                have e3 : IntKind.i64.wrap ((m : Int) - 1) = (q : Int) := by rw [IntWalk.i64_in _ (by omega)]; omega
                have hqm : q < m := by omega
                have hm2 : 0 < m := by omega
                have hm0 : decide ((m : Int) > 0) = true := decide_eq_true (by omega)
                have hm1 : (m : Int) ≤ 1001 := by omega
                rw [← hm] at q1 hnj ⊢
                clear hm hux u0
                by_cases he : u.1.2 = y.1.1
                · have t1 : (u.1.2 == y.1.1) = true := beq_iff_eq.2 he
                  by_cases hv2 : u.2 = y.2
                  · have t2 : (u.2 == y.2) = true := beq_iff_eq.2 hv2
                    have HN := Lib.hid (Weld.join HPL.out.1 hWe hlt2 (by rw [← HY.out]; exact he) (by rw [← HY.out]; exact hv2))
                    rw [← hy] at HN
                    have HR5 := Lib.hid hR
                    have HB5 := Lib.hid hB
                    have HQ4 := Lib.hid q4
                    clear hWe hR hB hmore hy hb8 q3 q4 q5 q6 hat hq hmq he hv2
                    go_wp2_with fail
                    go_quiet (fail)
                    have HR6 : Hid (QRow ((wr.drewN nq).setCell ⟨g, o + q * 3 + 1, none⟩ (.int .i64 y.1.2)) W6.heap.size (.slice (some ⟨g, o, none⟩) m cr) (p ++ [((u.1.1, y.1.2), u.2)])) := Lib.hid (by
                      have h1 : QRow (wr.drewN nq) W6.heap.size (.slice (some ⟨g, o, none⟩) (p.length + 1) cr) (p ++ [u]) := by
                        have := HR5.out
                        rw [show (p ++ [u]).length = p.length + 1 by simp] at this
                        exact RowAt.keep this (w' := wr.drewN nq) fun _ _ => rfl
                      have h2 := h1.set y.1.2
                      rw [HM.out, HQ.out, show (p ++ [u]).length = p.length + 1 by simp]
                      exact h2)
                    have HB6 := Lib.hid (below_put (below_drewN HB5.out nq) HQ4.out (o + q * 3 + 1) (.int .i64 y.1.2))
                    go_wp2
                    go_roundw
                    case rel => exact ⟨j + 1, _, by go_num, HN.out, HR6.out, HB6.out⟩
                    case measure => simp [intOf]; omega
                  · have t2 : (u.2 == y.2) = false := beq_eq_false_iff_ne.2 hv2
                    have HN := Lib.hid (hmore (fun p' u' e => by
                      obtain ⟨rfl, e2⟩ := List.append_inj' e rfl
                      simp only [List.cons.injEq, and_true] at e2
                      subst e2
                      exact fun h => hv2 h.2))
                    have HR5 := Lib.hid hR
                    have HB5 := Lib.hid hB
                    clear hWe hR hB hmore hy hb8 q3 q4 hat hq hmq he hv2 q5 q6
                    go_wp2_with fail
                    go_quiet (fail)
                    obtain ⟨A9, c9, w9, hr9, hR9, hB9, -, -, -⟩ := pushQ_one (RowAt.keep HR5.out (w' := wr.drewN nq) fun _ _ => rfl) y HB5.out.size (by rw [← HM.out]; omega) 62
                    rw [← HM.out] at hr9 hR9
                    have HR9 := Lib.hid hR9
                    have HB9 := Lib.hid ((below_drewN HB5.out nq).trans hB9)
                    clear hR9 hB9
                    go_wp2_with (at_builtin; refine Lib.wpList_append_run _ rfl _ _ _ _ rfl _ _ rfl rfl _ _ hr9 ?_)
                    go_roundw
                    case rel => exact ⟨j + 1, _, by go_num, HN.out, HR9.out, HB9.out⟩
                    case measure => simp [intOf]; omega
                · have t1 : (u.1.2 == y.1.1) = false := beq_eq_false_iff_ne.2 he
                  have HN := Lib.hid (hmore (fun p' u' e => by
                    obtain ⟨rfl, e2⟩ := List.append_inj' e rfl
                    simp only [List.cons.injEq, and_true] at e2
                    subst e2
                    exact fun h => he h.1))
                  have HR5 := Lib.hid hR
                  have HB5 := Lib.hid hB
                  clear hWe hR hB hmore hy hb8 q3 q4 hat hq hmq he q5 q6
                  go_wp2_with fail
                  go_quiet (fail)
                  obtain ⟨A9, c9, w9, hr9, hR9, hB9, -, -, -⟩ := pushQ_one (RowAt.keep HR5.out (w' := wr.drewN nq) fun _ _ => rfl) y HB5.out.size (by rw [← HM.out]; omega) 62
                  rw [← HM.out] at hr9 hR9
                  have HR9 := Lib.hid hR9
                  have HB9 := Lib.hid ((below_drewN HB5.out nq).trans hB9)
                  clear hR9 hB9
                  go_wp2_with (at_builtin; refine Lib.wpList_append_run _ rfl _ _ _ _ rfl _ _ rfl rfl _ _ hr9 ?_)
                  go_roundw
                  case rel => exact ⟨j + 1, _, by go_num, HN.out, HR9.out, HB9.out⟩
                  case measure => simp [intOf]; omega
            · obtain rfl : j = d.length := by omega
              have HM : Hid (MapOf n (fun b u => (Has s b ∧ val = u) ∨ (Val l b u ∧ ¬ Has s b))) := Lib.hid ⟨hWe.norm, fun b u => by rw [hWe.val b u, List.take_length]; exact HPL.out.2 b u⟩
              have HR9 := Lib.hid hR
              have HB9 := Lib.hid (HB6.out.trans (hB.mono HB6.out.size))
              have HLN : Hid (n.length ≤ l.length + 2) := Lib.hid (by have := HDL.out; have := HCL.out; omega)
              obtain ⟨AR, cr, rfl, -, -, -, -⟩ := hR.form
              clear hWe hR hB
              go_wp2
              go_ret
              exact ⟨_, n, rfl, HR9.out.mono (Nat.zero_le _), HM.out, HLN.out, HB9.out⟩
        intro key
        clear hd
        have hk3 : c.length ≤ ca3 := by omega
        go_region_law (first
          | (refine step_append_eq rfl (.const (.slice none 0 0)) (.tmp 38) 62 62 rfl _ _ _ (by simp [Act.eval, Act.put]) (by simp [Act.eval, Act.put]) hA39 ?_)
          | (refine step_append_eq rfl (.const (.slice none 0 0)) (.tmp 38) 62 62 rfl _ _ _ (by simp [Act.eval, Act.put]) (by simp [Act.eval, Act.put]) hB39 ?_)
          | (refine step_append_eq rfl (.tmp 39) (.tmp 43) 62 62 rfl _ _ _ (by simp [Act.eval, Act.put]) (by simp [Act.eval, Act.put]) hA44 ?_)
          | (refine step_append_eq rfl (.tmp 39) (.tmp 43) 62 62 rfl _ _ _ (by simp [Act.eval, Act.put]) (by simp [Act.eval, Act.put]) hB44 ?_)
          | (refine step_append_eq rfl (.tmp 44) (.tmp 47) 62 62 rfl _ _ _ (by simp [Act.eval, Act.put]) (by simp [Act.eval, Act.put]) hA48 ?_)
          | (refine step_append_eq rfl (.tmp 44) (.tmp 47) 62 62 rfl _ _ _ (by simp [Act.eval, Act.put]) (by simp [Act.eval, Act.put]) hB48 ?_))
        all_goals
          first
          | exact key wA3 (vA3, _) ⟨hEA, hFA, rfl, rfl, rfl⟩
          | exact key wB3 (vB3, _) ⟨hEB, hFB, rfl, rfl, rfl⟩
theorem refset_any (v : Value) (l : List Pt) (s : S) (hs : Ok s) (val : Int) (w : World) (h : Parts w v l) (hn : PNorm l) (hl : l.length ≤ 900) :
    Calls Tryz.prog 28 #[v, aggS s, .int .i64 val] w fun e w' => ∃ r m, e = .returned r ∧ Parts w' r m ∧ MapOf m (fun b u => (Has s b ∧ val = u) ∨ (Val l b u ∧ ¬ Has s b)) ∧ m.length ≤ l.length + 2 ∧ Below w.heap.size w w' :=
  (refsetq_any v l s hs val w h hn hl).mono fun _ _ ⟨r, m, h1, h2, h3⟩ => ⟨r, m, h1, h2.parts, h3⟩
end Go.Proofs.YtehnobcjoaclcaaGreat
