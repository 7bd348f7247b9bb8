/- commonsbook's Spans: one more list is kept. -/
import Derived.Test.YtehnobcjoaclcaaGreatKhS
import Derived.Test.YtehnobcjoaclcaaGreatBkM
import Derived.BigRegion
namespace Go.Proofs.YtehnobcjoaclcaaGreat
open Go Go.RowKit
open SpanP
set_option maxRecDepth 100000
set_option maxHeartbeats 4000000
set_option linter.unusedSimpArgs false

theorem lensSpans_snoc (L : List (List S)) (l : List S) : lensSpans (L ++ [l]) = lensSpans L ++ [(l.length, cellsS l)] := by simp [lensSpans]
theorem keepSpans_any (p lo : Nat) (cs : Array Value) (iv wv : Value) (vs ts : List Value) (L : List (List S)) (x : Value) (l : List S) (w : World) (hs : Sits w p 41 cs) (hi : cs[6]? = some iv) (hw : cs[7]? = some wv) (hK : Kept w lo 22 43 2 iv wv vs ts (lensSpans L)) (hL : L.length < 250)
    (hx : SRow w lo x l) (hl : l.length ≤ 100000) (hnew : ∀ g, x.ownBlock = some g → ¬ KS vs g) (hlo : lo ≤ w.heap.size) :
    Calls Tryz.prog 18 #[.pointer (some ⟨p, 0, none⟩), x] w fun e w' => e = .returned (.tuple #[]) ∧ ∃ r v u, Sits w' p 41 ((cs.setIfInBounds 6 r).setIfInBounds 7 v) ∧ Kept w' lo 22 43 2 r v (vs ++ [x]) (ts ++ [u]) (lensSpans (L ++ [l])) ∧ Many (KT p iv wv) w w' := by
  have hvl : vs.length = L.length := by rw [hK.len1, lensSpans_len]
  have htl : ts.length = L.length := by rw [hK.len2, lensSpans_len]
  obtain ⟨AI, ci, rfl, hci, -, -, -⟩ := hK.rowI.form
  obtain ⟨AW, cw, rfl, hcw, -, -, -⟩ := hK.rowW.form
  obtain ⟨AX, cx, rfl, hcx, -, -, -⟩ := hx.form
  obtain ⟨r, w2, hap, hr2, hm2, hr6⟩ := row_more elem2Spans hK.rowI (x := .slice AX l.length cx) rfl 28 (by omega) hlo Tryz.underlying28
  have hpI : (Value.slice AI vs.length ci).ownBlock ≠ some p := fun e => by
    obtain ⟨c1, s1⟩ := hK.rowI.sits p e
    exact (s1.apart hs (by decide)) rfl
  have hpW : (Value.slice AW ts.length cw).ownBlock ≠ some p := fun e => by
    obtain ⟨c1, s1⟩ := hK.rowW.sits p e
    exact (s1.apart hs (by decide)) rfl
  have hs2 := hs.many hm2 hpI
  have c2 := (hs.cell 6).trans hi
  have c2' := (hs2.cell 6).trans hi
  have f2 := hs2.warm 6
  obtain ⟨AR, cr, rfl, hcr, -, -, -⟩ := hr2.form
  obtain ⟨w3, hw3⟩ : ∃ w3, w3 = w2.setCell ⟨p, 6, none⟩ (.slice AR (vs.length + 1) cr) := ⟨_, rfl⟩
  have hs3 : Sits w3 p 41 (cs.setIfInBounds 6 (.slice AR (vs.length + 1) cr)) := by rw [hw3]; exact hs2.put 6 _
  have hM3 : Many (KT p (.slice AI vs.length ci) (.slice AW ts.length cw)) w w3 := by
    rw [hw3]
    have h0 : Many (KT p (.slice AI vs.length ci) (.slice AW ts.length cw)) w w2 := hm2.mono fun k _ e => .inr (.inl e)
    exact h0.store (show KT _ _ _ p from .inl rfl) 6 _
  have c3 : w3.cell? ⟨p, 7, none⟩ = some (.slice AW ts.length cw) := by
    rw [hs3.cell 7, Array.getElem?_setIfInBounds_ne (by omega), hw]
  have hrow3 : ∀ {v : Value} {b0 n : Nat} {xs : List Value}, RowAt w2 b0 22 1 v n xs → RowAt w3 b0 22 1 v n xs := fun {v b0 n xs} hv => by
    have hm23 : Many (fun k => k = p) w2 w3 := by rw [hw3]; exact Many.store (Many.refl (fun k => k = p) w2) (show (fun k => k = p) p from rfl) 6 _
    refine hm23.kept hv fun k hk e => ?_
    subst e
    obtain ⟨c1, s1⟩ := hv.sits k hk
    exact (s1.apart hs2 (by decide)) rfl
  have hr3 := hrow3 hr2
  have hw30 : RowAt w3 lo 22 1 (.slice AW ts.length cw) ts.length ts := hrow3 (hm2.kept hK.rowW fun k hk e => hK.apart k e hk)
  have hx3 : SRow w3 lo (.slice AX l.length cx) l := hM3.kept hx fun k hk => by
    obtain ⟨c1, s1⟩ := hx.sits k hk
    exact KT.ne hK hs s1 (by decide) (by decide)
  have hlo3 : lo ≤ w3.heap.size := Nat.le_trans hlo hM3.size
  have hcp := cpySpans_any (.slice AX l.length cx) l w3.drew (SRow.spans (hx3.keep fun _ _ => rfl)) (by omega)
  have hwr : ∀ (W : World) (u : Value), Below w3.heap.size w3.drew W → u.oneCell' = true → ∃ v w5, (Builtin.append_ #[28, 28] 28 #[.slice AW ts.length cw, .slice (some ⟨W.heap.size, 0, none⟩) 1 1]).run Tryz.prog (W.alloc (.cells #[u] 22)) = .ok v w5 ∧
      RowAt w5 lo 22 1 v (ts.length + 1) (ts ++ [u]) ∧ Many (fun k => (Value.slice AW ts.length cw).ownBlock = some k) W w5 ∧ (∀ b, v.ownBlock = some b → (Value.slice AW ts.length cw).ownBlock = some b ∨ W.heap.size ≤ b) := fun W u hW hu =>
    row_more elem2Spans (hw30.keep fun k hk => ((Below.refl w3.heap.size w3).drew.trans hW).block k (hw30.lt k hk).2) hu 28 (by omega) (Nat.le_trans hlo3 hW.size) Tryz.underlying28
  have d1 : decide ((vs.length : Int) < 250) = true := by simp; omega
  have hl250 : vs.length < 250 := by omega
  have HA := Lib.hid hap
  have HW3 := Lib.hid hw3
  have HS3 := Lib.hid hs3
  have HCP := Lib.hid hcp
  have HWR := Lib.hid hwr
  have HNP := Lib.hid hpW
  have HFIN : Hid (∀ (w4 w5 : World) (u v : Value), Below w3.heap.size w3.drew w4 → u.oneCell' = true → SRow w4 w3.heap.size u l → Many (fun k => (Value.slice AW ts.length cw).ownBlock = some k) w4 w5 → RowAt w5 lo 22 1 v (ts.length + 1) (ts ++ [u]) →
      (∀ b, v.ownBlock = some b → (Value.slice AW ts.length cw).ownBlock = some b ∨ w4.heap.size ≤ b) → Sits w5 p 41 (cs.setIfInBounds 6 (.slice AR (vs.length + 1) cr)) →
      Sits (w5.setCell ⟨p, 7, none⟩ v) p 41 ((cs.setIfInBounds 6 (.slice AR (vs.length + 1) cr)).setIfInBounds 7 v) ∧ Kept (w5.setCell ⟨p, 7, none⟩ v) lo 22 43 2 (.slice AR (vs.length + 1) cr) v (vs ++ [.slice AX l.length cx]) (ts ++ [u]) (lensSpans (L ++ [l])) ∧ Many (KT p (.slice AI vs.length ci) (.slice AW ts.length cw)) w (w5.setCell ⟨p, 7, none⟩ v)) := Lib.hid (fun w4 w5 u v hb4 hu hu4 hm5 hv5 hv6 s5 => by
    have hm35 : Many (fun k => (Value.slice AW ts.length cw).ownBlock = some k) w3 w5 := ((Many.refl _ w3).then ((Below.refl _ w3).drew.trans hb4)).trans hm5
    have hM5 : Many (KT p (.slice AI vs.length ci) (.slice AW ts.length cw)) w w5 := hM3.trans' hm35 fun k _ e => .inr (.inr e)
    have hM6 := hM5.store (.inl rfl : KT p (.slice AI vs.length ci) (.slice AW ts.length cw) p) 7 v
    have hm56 : Many (fun k => k = p) w5 (w5.setCell ⟨p, 7, none⟩ v) := Many.store (Many.refl (fun k => k = p) w5) (show (fun k => k = p) p from rfl) 7 v
    have hrow6 : ∀ {y : Value} {b0 n size : Nat} {t : TypeId} {xs : List Value}, t ≠ 41 → RowAt w5 b0 t size y n xs → RowAt (w5.setCell ⟨p, 7, none⟩ v) b0 t size y n xs := fun {y b0 n size t xs} ht hy => hm56.kept hy fun k hk e => by
      subst e
      obtain ⟨c1, s1⟩ := hy.sits k hk
      exact (s1.apart s5 ht) rfl
    refine ⟨s5.put 7 v, ?_, hM6⟩
    rw [lensSpans_snoc]
    refine hK.more (by rw [lensSpans_len]; exact hL) hx hl hnew hs hM6 (hrow6 (by decide) (hm35.kept hr3 fun k hk e => ?_)) (hrow6 (by decide) hv5) (fun b h1 h2 => ?_) (hrow6 (by decide) (hm5.kept (RowAt.mono hu4 hlo3) fun k hk e => ?_)) (by decide) (by decide)
    · rcases hr6 k hk with h | h
      · exact hK.apart k h e
      · have := (hK.rowW.lt k e).2
        omega
    · rcases hv6 b h2 with h | h
      · rcases hr6 b h1 with h3 | h3
        · exact hK.apart b h3 h
        · have := (hK.rowW.lt b h).2
          omega
      · have h3 := (hr3.lt b h1).2
        have h4 := hb4.size
        have h5 : w3.drew.heap.size = w3.heap.size := rfl
        omega
    · have h3 := (hu4.lt k hk).1
      have h4 := (hw30.lt k e).2
      omega)
  clear hap hw3 hcp hwr hpW hpI hs hi hw hK hL hx hl hnew hlo hr2 hm2 hr6 hs2 hM3 hrow3 hr3 hw30 hx3 hlo3 hs3 hvl htl
  go_enter Tryz.func18, Tryz.ntmps18
  go_wp2_with (at_builtin; refine Lib.wpList_append_run _ rfl _ _ _ _ rfl _ _ rfl rfl _ _ HA.out ?_)
  rw [← HW3.out]
  go_region_law (first
    | (refine step_append_eq rfl (.tmp 24) (.tmp 27) 28 28 rfl _ _ _ (by simp [Act.eval, Act.put]) (by simp [Act.eval, Act.put]) hap5 ?_)
    | (go_simp; go_at_call 36; refine HCP.out.mono ?_; rintro e w4 ⟨u, rfl, hu, hb4⟩; obtain ⟨AU, cu, rfl, -, -, -, -⟩ := hu.form; obtain ⟨v5, w5, hap5, hv5, hm5, hv6⟩ := HWR.out w4 _ hb4 (rfl : (Value.slice AU l.length cu).oneCell' = true); obtain ⟨A5, c5, rfl, hc5, -, -, -⟩ := hv5.form; have s5 := ((HS3.out.drewN 1).below' hb4).many hm5 HNP.out; have k5 : w5.cell? ⟨p, 7, none⟩ = some (.slice AW ts.length cw) := (((World.cell?_of_block (hm5.block p (Nat.lt_of_lt_of_le HS3.out.lt hb4.size) HNP.out)).trans (hb4.cell (p := ⟨p, 7, none⟩) HS3.out.lt))).trans c3; have f5 := s5.warm 7; have k3 : w4.cell? ⟨p, 7, none⟩ = some (.slice AW ts.length cw) := (hb4.cell (p := ⟨p, 7, none⟩) HS3.out.lt).trans c3; have k4 : (w4.alloc (.cells #[.slice AU l.length cu] 22)).cell? ⟨p, 7, none⟩ = some (.slice AW ts.length cw) := (((Below.refl w4.heap.size w4).alloc (Nat.le_refl _) _).cell (p := ⟨p, 7, none⟩) (Nat.lt_of_lt_of_le HS3.out.lt hb4.size)).trans k3))
  all_goals
    have hfin := HFIN.out w4 w5 _ _ hb4 rfl hu hm5 hv5 hv6 s5
    have HF := Lib.hid hfin
    clear hfin
    go_returns
    exact ⟨rfl, _, _, _, HF.out.1, HF.out.2.1, HF.out.2.2⟩
end Go.Proofs.YtehnobcjoaclcaaGreat
