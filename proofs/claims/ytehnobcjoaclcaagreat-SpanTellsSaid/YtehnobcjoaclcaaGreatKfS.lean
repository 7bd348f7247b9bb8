/- commonsbook's lists of Spans: each kept list gets its own marks (put). -/
import Derived.Test.YtehnobcjoaclcaaGreatKeS
namespace Go.Proofs.YtehnobcjoaclcaaGreat
open Go Go.RowKit
open SpanP
set_option maxRecDepth 100000
set_option maxHeartbeats 1000000
set_option linter.unusedSimpArgs false

theorem putSpans_cells (i j : Nat) (X : List Value) (n : Nat) (hX : X.length = n * 2) (hj : j < n) :
    ((cellsS (marksSpans i 0 j) ++ X.drop (j * 2)).set (j * 2) (.int .i64 (markSpans i j).1)).set (j * 2 + 1) (.int .i64 (markSpans i j).2) = cellsS (marksSpans i 0 (j + 1)) ++ X.drop ((j + 1) * 2) := by
  rw [set2 _ _ _ (by rw [cellsS_length, marksSpans_length]) (by omega), ← marksSpans_add, cellsS_append, Nat.zero_add, show j * 2 + 2 = (j + 1) * 2 by omega]
  rfl
theorem marksSpans_get (i n j : Nat) (hj : j < n) : (marksSpans i 0 n)[j]'(by rw [marksSpans_length]; exact hj) = markSpans i j := by
  simp [marksSpans]
/-- What each kept list has on the way. -/
def waySpans (W : World) (lo : Nat) (vs : List Value) (ls : List (Nat × List Value)) (k : Nat) : Prop :=
  ∀ (i : Nat) v x, vs[i]? = some v → ls[i]? = some x → (i < k → RowAt W lo 43 2 v x.1 (cellsS (marksSpans i 0 x.1))) ∧ (¬ i < k → RowAt W lo 43 2 v x.1 x.2)
theorem putSpans_any (p lo : Nat) (iv wv : Value) (vs ts : List Value) (ls : List (Nat × List Value)) (w : World) (c2 : w.cell? ⟨p, 6, none⟩ = some iv) (hp : p < w.heap.size) (hpk : ¬ KS vs p) (h : Kept w lo 22 43 2 iv wv vs ts ls) (hik : ∀ k, iv.ownBlock = some k → ¬ KS vs k) :
    Calls Tryz.prog 62 #[.pointer (some ⟨p, 0, none⟩)] w fun e w' => e = .returned (.tuple #[]) ∧ Many (KS vs) w w' ∧ waySpans w' lo vs ls vs.length := by
  obtain ⟨A, cap, rfl, hle, hcp, -, -⟩ := h.rowI.form
  have hl250 : (vs.length : Int) ≤ 250 := by have := h.few; have := h.len1; omega
  have HH := Lib.hid h
  have HC := Lib.hid (And.intro c2 (And.intro hp hpk))
  have HIK := Lib.hid hik
  clear h c2 hp hpk hik
  have hb0 : ∀ W, Many (KS vs) w W → W.cell? ⟨p, 6, none⟩ = some (.slice A vs.length cap) := fun W hm => (World.cell?_of_block (hm.block p HC.out.2.1 HC.out.2.2)).trans HC.out.1
  have hri : ∀ W, Many (KS vs) w W → Vals W (.slice A vs.length cap) vs := fun W hm => (hm.kept HH.out.rowI HIK.out).vals
  have HB := Lib.hid hb0
  have HRI := Lib.hid hri
  have c2 := hb0 w (Many.refl _ _)
  clear hb0 hri
  go_enter Tryz.func62, Tryz.ntmps62
  go_wp2
  clear c2
  go_loopw [2] (fun i wr => ∃ k : Nat, k ≤ vs.length ∧ i = .int .i64 k ∧ Hid (Many (KS vs) w wr ∧ waySpans wr lo vs ls k)) (fun i _ => vs.length - (intOf i).toNat)
  case atStart => exact ⟨0, by omega, rfl, Lib.hid ⟨Many.refl _ _, fun i v x hv hx => ⟨fun h => absurd h (Nat.not_lt_zero _), fun _ => HH.out.kept i v x hv hx⟩⟩⟩
  case round =>
    obtain ⟨k, hk, rfl, hI⟩ := hrel
    have c2 := HB.out wr hI.out.1
    by_cases hlt : k < vs.length
    · obtain ⟨A', cap', e', -, -, h3⟩ := SliceAt.one_ (f := fun v => v) (HRI.out wr hI.out.1)
      simp only [Value.slice.injEq, true_and] at e'
      obtain ⟨rfl, rfl⟩ := e'
      obtain ⟨b, o, rfl, hbs, hcb⟩ := h3 k hlt
      obtain ⟨v, hv⟩ : ∃ v, vs[k]? = some v := ⟨_, List.getElem?_eq_getElem hlt⟩
      have hve : vs[k] = v := (List.getElem?_eq_some_iff.1 hv).2
      rw [hve] at hcb
      have hlk : k < ls.length := by have := HH.out.len1; omega
      obtain ⟨⟨n, X⟩, hx⟩ : ∃ x, ls[k]? = some x := ⟨_, List.getElem?_eq_getElem hlk⟩
      have hrow := (hI.out.2 k v (n, X) hv hx).2 (by omega)
      simp only at hrow
      have hn := HH.out.small (n, X) (List.mem_of_getElem? hx)
      simp only at hn
      have hX : X.length = n * 2 := hrow.1
      obtain ⟨AG, cg, rfl, hg1, hg2, hg3, -⟩ := hrow.form
      have hn2 : (n : Int) ≤ 100000 := by omega
      have HV := Lib.hid (And.intro hv (And.intro hx (And.intro hX hn)))
      have HROW := Lib.hid hrow
      have HG3 := Lib.hid hg3
      clear h3 hbs hv hve hx hrow hX hn hg3 hlk
      go_wp2_with fail
      refine (markSpans_any k 0 n wr (by omega) (by omega) (by omega)).mono ?_
      rintro e w2 ⟨u, rfl, hU, hB⟩
      obtain ⟨Am, cm, rfl, hm1, hm2, hm3, hm4⟩ := RowAt.form hU
      have hml : (marksSpans k 0 n).length = n := marksSpans_length _ _ _
      rw [hml] at hm1 hm3 ⊢
      have HU := Lib.hid (And.intro hm3 hm4)
      have HB2 := Lib.hid hB
      have HR2 := Lib.hid (HROW.out.below hB)
      clear hU hm3 hm4 hB hml c2 hcb
      go_wp2_with fail
      go_loopw [4] (fun i wr2 => ∃ j : Nat, j ≤ n ∧ i = .int .i64 j ∧ Hid (Many (fun q => (Value.slice AG n cg).ownBlock = some q) w2 wr2 ∧ RowAt wr2 lo 43 2 (.slice AG n cg) n (cellsS (marksSpans k 0 j) ++ X.drop (j * 2)))) (fun i _ => n - (intOf i).toNat)
      case atStart => exact ⟨0, by omega, rfl, Lib.hid ⟨Many.refl _ _, by rw [Nat.zero_mul, List.drop_zero]; exact HR2.out⟩⟩
      case round =>
        obtain ⟨j, hj, rfl, hJ⟩ := hrel
        have hMw : Many (KS vs) w wr := (hI.out.1.then HB2.out).trans (hJ.out.1.mono fun q _ e => ks_at HV.out.1 e)
        by_cases hlt2 : j < n
        · obtain ⟨g, og, rfl⟩ := HG3.out (by omega)
          have c2 := HB.out wr hMw
          obtain ⟨A', cap', e', -, -, h3⟩ := SliceAt.one_ (f := fun v => v) (HRI.out wr hMw)
          simp only [Value.slice.injEq, true_and] at e'
          obtain ⟨rfl, rfl⟩ := e'
          obtain ⟨b', o', eb, hbs, hcb⟩ := h3 k hlt
          simp only [Option.some.injEq, Addr.mk.injEq, and_true] at eb
          obtain ⟨rfl, rfl⟩ := eb
          rw [(List.getElem?_eq_some_iff.1 HV.out.1).2] at hcb
          obtain ⟨gm, om, rfl⟩ := HU.out.1 (by omega)
          obtain ⟨hg1', hg2', hg3', -⟩ := HU.out.2 gm om rfl
          have hgm : ∀ t u, (encS (markSpans k j))[t]? = some u → wr.cell? ⟨gm, om + j * 2 + t, none⟩ = some u := fun t u hu => by
            have ht : t < 2 := (List.getElem?_eq_some_iff.1 hu).1
            have h5 := hg3' (j * 2 + t) u (by rw [cellsS_at _ j t (by rw [marksSpans_length]; exact hlt2) ht, marksSpans_get k n j hlt2]; exact hu)
            rw [← Nat.add_assoc] at h5
            refine Eq.trans (World.cell?_of_block (hJ.out.1.block gm hg2' fun e => ?_)) h5
            have := (HROW.out.lt gm e).2
            omega
          have m0 := hgm 0 _ rfl
          rw [Nat.add_zero] at m0
          have m1 := hgm 1 _ rfl
          have hrow := hJ.out.2
          have HROWJ := Lib.hid hrow
          have HM := Lib.hid (And.intro m0 m1)
          have HLT := Lib.hid (And.intro (show p < wr.heap.size from Nat.lt_of_lt_of_le HC.out.2.1 hMw.size) (And.intro hbs (show gm < wr.heap.size from Nat.lt_of_lt_of_le hg2' hJ.out.1.size)))
          have HC2 := Lib.hid c2
          have HCB := Lib.hid hcb
          have hj1 : (j : Int) < (n : Int) := by omega
          have hk1 : (k : Int) < (vs.length : Int) := by omega
          have HL2 := Lib.hid hlt2
          clear m0 m1 hgm hg1' hg2' hg3' hrow h3 hbs hMw c2 hcb
          go_wp2_with fail
          refine wp_region_tail 13 (by kernel_rfl) (fun W => Below wr.heap.size wr W) (fun W W' => Below W.heap.size W W')
            [[(0, none)], [(30, some 0)], [(31, some 1)], [(32, some 2)], [(2, none)], [(33, some 3), (34, some 4)], [(35, some 5)], [(4, none)], [(3, none)], [(4, none)], [(38, some 8), (39, some 9)], [(40, some 10)], [(36, some 6), (37, some 7)], [(41, some 11), (42, some 12)]]
            [none, none, none, none, none, none, none, none, none, none, none, none, none, none, none, none, none, none, none, none, none, none, none, none, none, none, none, none, none, none, some 0, some 1, some 2, some 3, some 4, some 5, some 6, some 7, some 8, some 9, some 10, some 11, some 12] (by kernel_rfl) (by kernel_rfl) (by kernel_rfl) ((Below.refl _ _).drew) ?_
          simp only [List.take_succ_cons, List.take_zero, List.drop_succ_cons, List.drop_zero]
          iterate 13
            refine ex_pure (c := ?_) (fun _ _ => Below.refl _ _) ?_ ?_
            rotate_left
            · intro a' W hR hF
              simp only [FactsOf, List.nil_append, List.cons_append, List.getD_cons_zero, List.getD_cons_succ, exists_eq_left, and_true, List.getElem?_toArray, List.getElem?_cons_zero, List.getElem?_cons_succ] at hF
              have k1 := (hR.cell (p := ⟨p, 6, none⟩) HLT.out.1).trans HC2.out
              have k2 := (hR.cell (p := ⟨b, o + k, none⟩) HLT.out.2.1).trans HCB.out
              have k3 := (hR.cell (p := ⟨gm, om + j * 2, none⟩) HLT.out.2.2).trans HM.out.1
              have k4 := (hR.cell (p := ⟨gm, om + j * 2 + 1, none⟩) HLT.out.2.2).trans HM.out.2
              refine ⟨?_, ?_⟩
              · simp [Region.wanted, yielded, hF]
              · go_simp
                with_reducible rfl
          show ∀ W, _ → _
          intro w5 hR2
          simp only [FinOf, List.nil_append, List.cons_append, List.getD_cons_zero, List.getD_cons_succ, forall_eq, forall_exists_index, and_imp, Nat.reduceAdd, Array.getD_eq_getD_getElem?, List.getElem?_toArray, List.getElem?_cons_zero, List.getElem?_cons_succ, Option.getD_some]
          have hrow5 := HROWJ.out.below hR2
          obtain ⟨⟨x0, -, z0⟩, f0⟩ := hrow5.at (j * 2) (by have := HL2.out; omega)
          obtain ⟨⟨x1, -, z1⟩, f1⟩ := hrow5.at (j * 2 + 1) (by have := HL2.out; omega)
          rw [← Nat.add_assoc] at z1 f1
          have hM5 : Many (fun q => (Value.slice (some ⟨g, og, none⟩) n cg).ownBlock = some q) w2 w5 := hJ.out.1.then hR2
          have hcells := putSpans_cells k j X n HV.out.2.2.1 HL2.out
          have hput := (hrow5.put (j * 2) (by have := HL2.out; omega) (.int .i64 (markSpans k j).1)).put (j * 2 + 1) (by have := HL2.out; omega) (.int .i64 (markSpans k j).2)
          rw [hcells, ← Nat.add_assoc] at hput
          have hM6 := (hM5.store (q := g) rfl (og + j * 2) (.int .i64 (markSpans k j).1)).store (q := g) rfl (og + j * 2 + 1) (.int .i64 (markSpans k j).2)
          obtain ⟨w6, hw6⟩ : ∃ w6, w6 = (w5.setCell ⟨g, og + j * 2, none⟩ (.int .i64 (markSpans k j).1)).setCell ⟨g, og + j * 2 + 1, none⟩ (.int .i64 (markSpans k j).2) := ⟨_, rfl⟩
          rw [← hw6] at hput hM6
          have HQ := Lib.hid (And.intro hM6 hput)
          clear hput hM6 hM5 hcells hrow5 hR2
          go_wp2
          rw [← hw6]
          go_roundw
          case measure => simp [intOf]; omega
          case rel => exact ⟨j + 1, by have := HL2.out; omega, by go_num, HQ⟩
        · obtain rfl : j = n := by omega
          have hfull := hJ.out.2
          rw [← HV.out.2.2.1, List.drop_length, List.append_nil] at hfull
          have hnew : waySpans wr lo vs ls (k + 1) := fun i v x hv hx => by
            by_cases e : i = k
            · subst e
              have e1 := hv.symm.trans HV.out.1
              have e2 := hx.symm.trans HV.out.2.1
              simp only [Option.some.injEq] at e1 e2
              subst e1 e2
              exact ⟨fun _ => hfull, fun h => by omega⟩
            · have hne : ∀ q, v.ownBlock = some q → ¬ (Value.slice AG j cg).ownBlock = some q := fun q hq hq2 => e (kept_one HH.out.nodup hv HV.out.1 hq hq2)
              obtain ⟨h1, h2⟩ := hI.out.2 i v x hv hx
              exact ⟨fun hi => hJ.out.1.kept ((h1 (by omega)).below HB2.out) hne, fun hi => hJ.out.1.kept ((h2 (by omega)).below HB2.out) hne⟩
          have HQ := Lib.hid (And.intro hMw hnew)
          clear hMw hnew hfull
          go_wp2
          go_roundw
          case measure => simp [intOf]; omega
          case rel => exact ⟨k + 1, by omega, by go_num, HQ⟩
    · obtain rfl : k = vs.length := by omega
      clear hk hlt
      go_wp2
      go_returns
      exact ⟨rfl, hI.out.1, hI.out.2⟩
end Go.Proofs.YtehnobcjoaclcaaGreat
