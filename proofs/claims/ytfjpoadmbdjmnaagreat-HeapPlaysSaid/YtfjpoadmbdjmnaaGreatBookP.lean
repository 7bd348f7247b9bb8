/- commonsbook's Ints: one more list is kept. -/
import Derived.Test.YtfjpoadmbdjmnaaGreatBookD
namespace Go.Proofs.YtfjpoadmbdjmnaaGreat
open Go Go.RowKit
set_option maxRecDepth 100000
set_option maxHeartbeats 4000000
set_option linter.unusedSimpArgs false

theorem bookints_new (p lo : Nat) (ks : List (Option Nat × Nat)) (ts : List Value) (x : Option Nat × Nat) (L : List Int) (w : World) (h : BookAt w p lo ks ts) (hk : ks.length < 250) (hx : Ints w (keptV x) L) (hL : L.length ≤ 100000) (hsm : x.2 ≤ 100000 ∧ (x.1 = none → x.2 = 0))
    (hbl : ∀ g, x.1 = some g → (∃ cs : Array Value, Sits w g 3 cs ∧ cs.size = x.2) ∧ lo ≤ g ∧ ¬ KeptS ks g) (hlo : lo ≤ w.heap.size) :
    Calls Tryz.prog 15 #[.pointer (some ⟨p, 0, none⟩), keptV x] w fun e w' => e = .returned (.tuple #[]) ∧ ∃ u, BookAt w' p lo (ks ++ [x]) (ts ++ [u]) ∧ Many (BlkB w) w w' ∧ Below lo w w' ∧ ∀ k, u.ownBlock = some k → w.heap.size ≤ k := by
  obtain ⟨iv, wv, hs, hi, hw, ha⟩ := h.rows
  obtain ⟨r, w2, hap, hs2, hr2, hw2, ha2, hm2, hb2⟩ := ints_first x hs hi hw ha (by omega) hlo 35
  obtain ⟨AR, cr, rfl, hcr⟩ := elem_row hr2
  obtain ⟨AI, ci, rfl, hci⟩ := elem_row hi
  obtain ⟨AW, cw, rfl, hcw⟩ := elem_row hw
  obtain ⟨AX, hAX⟩ : ∃ AX : Option Addr, AX = x.1.map fun g => ⟨g, 0, none⟩ := ⟨_, rfl⟩
  have hv : keptV x = .slice AX x.2 x.2 := by rw [hAX]; rfl
  rw [hv] at hap hx ⊢
  have hs3 : Sits (w2.setCell ⟨p, 2, none⟩ (.slice AR (ks ++ [x]).length cr)) p 50 (bookI (.slice AR (ks ++ [x]).length cr) (.slice AW ts.length cw)) := hs2.put 2 _
  have c2 := hs.cell 2
  have c2' := hs2.cell 2
  have f2 := hs2.warm 2
  simp at c2 c2'
  have d1 : decide ((ks.length : Int) < 250) = true := by simp; omega
  have hl250 : ks.length < 250 := hk
  obtain ⟨w3, hw3⟩ : ∃ w3, w3 = w2.setCell ⟨p, 2, none⟩ (.slice AR (ks ++ [x]).length cr) := ⟨_, rfl⟩
  rw [← hw3] at hs3
  have c3 := hs3.cell 3
  simp at c3
  have HA := Lib.hid hap
  have HH := Lib.hid h
  have HW3 := Lib.hid hw3
  have H2 := Lib.hid (And.intro hr2 (And.intro hw2 (And.intro ha2 (And.intro hm2 hb2))))
  have HS3 := Lib.hid hs3
  have HXW : Hid (Ints w (.slice AX x.2 x.2) L) := Lib.hid hx
  have HWB : Hid (∀ k, (Value.slice AW ts.length cw).ownBlock = some k → BlkB w k) := Lib.hid (fun k e => .inr (by
    obtain ⟨_, ⟨e1, _⟩ | ⟨g, cap, cur, e1, _, h0, _⟩⟩ := hw
    · rw [e1] at e; simp [Value.ownBlock] at e
    · rw [e1] at e; simp only [Value.ownBlock, Option.some.injEq] at e
      subst e; exact ⟨_, h0⟩))
  have HWL : Hid (∀ k, (Value.slice AW ts.length cw).ownBlock = some k → lo ≤ k) := Lib.hid (fun k e => (hw.lt k e).1)
  have HWL3 : Hid (∀ k, (Value.slice AW ts.length cw).ownBlock = some k → k < w3.heap.size) := Lib.hid (fun k e => by
    have := (hw.lt k e).2
    rw [hw3, World.size_setCell]; have := hm2.size; omega)
  have HB3 : Hid (Below lo w w3) := Lib.hid (by rw [hw3]; exact below_put hb2 h.lo_p 2 _)
  have HR3 : Hid (w3.ownsRow lo 63 1 (.slice AR (ks ++ [x]).length cr) (ks ++ [x]).length ((ks ++ [x]).map keptV)) := Lib.hid (by
    obtain ⟨e0, hh⟩ := hr2
    refine ⟨e0, ?_⟩
    rcases hh with hh | ⟨g, cap, cur, e1, g1, g2, g3⟩
    · exact .inl hh
    · exact .inr ⟨g, cap, cur, e1, g1, by rw [hw3]; exact Sits.away (p := ⟨p, 2, none⟩) g2 (Sits.apart g2 hs2 (by decide)) _, g3⟩)
  have HBL := Lib.hid hbl
  have HSM := Lib.hid hsm
  have HLL := Lib.hid hL
  have HM3 : Hid (Many (BlkB w) w w3) := Lib.hid (by
    rw [hw3]
    exact (hm2.mono fun k hk e => .inr (by
      obtain ⟨_, ⟨e1, _⟩ | ⟨g, cap, cur, e1, _, h0, _⟩⟩ := hi
      · rw [e1] at e; simp [Value.ownBlock] at e
      · rw [e1] at e; simp only [Value.ownBlock, Option.some.injEq] at e
        subst e; exact ⟨_, h0⟩)).store (.inl ⟨_, hs⟩) 2 _)
  have HLO3 : Hid (lo ≤ w3.heap.size) := Lib.hid (by rw [hw3, World.size_setCell]; have := hm2.size; omega)
  have HP2 := Lib.hid hs2
  have HX := Lib.hid hx
  have HAX := Lib.hid hv
  clear hAX hv
  generalize hn1 : (ks ++ [x]).length = n1 at *
  have HN1 := Lib.hid hn1
  clear hn1
  clear hbl hsm hL hlo
  clear hap hs hi hw ha h hs2 hr2 hw2 ha2 hm2 hb2 hx hs3
  go_enter Tryz.func15, Tryz.ntmps15
  go_wp2_with (at_builtin; refine wpList_append_eq rfl (.tmp 14) (.tmp 16) 35 35 rfl _ _ _ rfl rfl HA.out ?_)
  rw [← hw3]
  have hw2 := H2.out.2.1
  have hw30 : w3.ownsRow lo 63 1 (.slice AW ts.length cw) ts.length ts := by
    obtain ⟨e0, h⟩ := hw2
    refine ⟨e0, ?_⟩
    rcases h with h | ⟨g, cap, cur, e1, h1, h2, h3⟩
    · exact .inl h
    · refine .inr ⟨g, cap, cur, e1, h1, ?_, h3⟩
      rw [HW3.out]
      exact (Sits.away (p := ⟨p, 2, none⟩) h2 (by
        have h9 := HP2.out
        exact (Sits.apart h2 h9 (by decide))) _)
  have hx3 : Ints w3 (.slice AX x.2 x.2) L := by
    have hxs : ∀ b, BlkB w b → ∀ o, 0 < L.length → ¬ ∃ n c, (Value.slice AX x.2 x.2) = .slice (some ⟨b, o, none⟩) n c := fun b hb o h0 ⟨n, c, e⟩ => by
      simp only [Value.slice.injEq] at e
      have hax := HAX.out
      unfold keptV at hax
      simp only [Value.slice.injEq, and_true] at hax
      rw [← hax] at e
      cases hx1 : x.1 with
      | none => rw [hx1] at e; simp at e
      | some g =>
        rw [hx1] at e
        simp only [Option.map_some, Option.some.injEq, Addr.mk.injEq, and_true] at e
        obtain ⟨⟨rfl, _⟩, _⟩ := e
        obtain ⟨⟨cs, hcs, _⟩, _⟩ := HBL.out g hx1
        rcases hb with ⟨c2, h2⟩ | ⟨c2, h2⟩
        · exact (Sits.apart hcs h2 (by decide)) rfl
        · exact (Sits.apart hcs h2 (by decide)) rfl
    have hm3 : Many (BlkB w) w w3 := HM3.out
    exact ints_many HX.out hm3 fun b o h0 e hb => hxs b hb o h0 e
  have hcp := copyInts_any (.slice AX x.2 x.2) L w3.drew (SliceAt.keep hx3 (Nat.le_refl _) fun _ _ => rfl) (by have := HLL.out; omega)
  have HCP := Lib.hid hcp
  have HX3 := Lib.hid hx3
  have HW30 := Lib.hid hw30
  clear hcp hx3 hw30 hw2
  have hwr : ∀ (W : World) (u : Value), Below w3.heap.size w3.drew W → u.oneCell' = true → ∃ v w5, (Builtin.append_ #[35, 35] 35 #[.slice AW ts.length cw, .slice (some ⟨W.heap.size, 0, none⟩) 1 1]).run Tryz.prog (W.alloc (.cells #[u] 63)) = .ok v w5 ∧
      w5.ownsRow lo 63 1 v (ts.length + 1) (ts ++ [u]) ∧ Many (fun k => (Value.slice AW ts.length cw).ownBlock = some k) W w5 ∧ (∀ b, v.ownBlock = some b → (Value.slice AW ts.length cw).ownBlock = some b ∨ W.heap.size ≤ b) := fun W u hW hu =>
    was_run HW30.out (Below.trans ((Below.refl _ w3).drew) hW) (by have := HH.out.len; omega) HLO3.out hu 35
  have HWR := Lib.hid hwr
  clear hwr
  clear hw3
  have HNP : Hid ((Value.slice AW ts.length cw).ownBlock ≠ some p) := Lib.hid (fun e => by
    obtain ⟨_, ⟨e1, _⟩ | ⟨g, cap, cur, e1, _, h0, _⟩⟩ := HW30.out
    · rw [e1] at e; simp [Value.ownBlock] at e
    · rw [e1] at e; simp only [Value.ownBlock, Option.some.injEq] at e
      subst e
      exact (Sits.apart h0 HS3.out (by decide)) rfl)
  go_region_law (first
    | (refine step_append_eq rfl (.tmp 24) (.tmp 27) 35 35 rfl _ _ _ (by simp [Act.eval, Act.put]) (by simp [Act.eval, Act.put]) hap5 ?_)
    | (go_simp; go_at_call 26; refine HCP.out.mono ?_; rintro e w4 ⟨u, rfl, hu, hb4⟩; obtain ⟨AU, cu, rfl, hu2⟩ := hu.form; obtain ⟨v5, w5, hap5, hv5, hm5, hv6⟩ := HWR.out w4 _ hb4 (rfl : (Value.slice AU L.length cu).oneCell' = true); obtain ⟨A5, c5, rfl, hc5⟩ := elem_row hv5; have s5 := ((HS3.out.drewN 1).below' hb4).many hm5 HNP.out; have k5 : w5.cell? ⟨p, 3, none⟩ = some (.slice AW ts.length cw) := (s5.cell 3).trans rfl; have f5 := s5.warm 3; have k3 : w4.cell? ⟨p, 3, none⟩ = some (.slice AW ts.length cw) := (hb4.cell (p := ⟨p, 3, none⟩) HS3.out.lt).trans c3; have k4 : (w4.alloc (.cells #[.slice AU L.length cu] 63)).cell? ⟨p, 3, none⟩ = some (.slice AW ts.length cw) := (((Below.refl w4.heap.size w4).alloc (Nat.le_refl _) _).cell (p := ⟨p, 3, none⟩) (Nat.lt_of_lt_of_le HS3.out.lt hb4.size)).trans k3))
  all_goals
    have hm35 : Many (fun k => (Value.slice AW ts.length cw).ownBlock = some k) w3 w5 := ((Many.refl _ w3).then ((Below.refl _ w3).drew.trans hb4)).trans hm5
    have hwB : ∀ k, k < w.heap.size → (Value.slice AW ts.length cw).ownBlock = some k → BlkB w k := fun k _ e => HWB.out k e
    have hm5' : Many (BlkB w) w w5 := Many.trans' HM3.out hm35 hwB
    have hBe : Below lo w w5 := HB3.out.trans (hm35.below (fun k e => HWL.out k e) HLO3.out)
    have hr5 : w5.ownsRow lo 63 1 (.slice AR n1 cr) (ks ++ [x]).length ((ks ++ [x]).map keptV) := by
      rw [HN1.out]
      obtain ⟨e0, hh⟩ := HR3.out
      refine ⟨e0, ?_⟩
      rcases hh with hh | ⟨g, cap, cur, e1, g1, g2, g3⟩
      · exact .inl hh
      · exact .inr ⟨g, cap, cur, e1, g1, (hm35.block g (Sits.lt g2) fun e => H2.out.2.2.1 g (by rw [e1]; rfl) e).trans g2, g3⟩
    have hap' : ∀ b, (Value.slice AR n1 cr).ownBlock = some b → (Value.slice A5 (ts.length + 1) c5).ownBlock ≠ some b := fun b e e2 => by
      rcases hv6 b e2 with h9 | h9
      · exact H2.out.2.2.1 b e h9
      · have := (HR3.out.lt b e).2
        have := hb4.size
        have h10 : w3.drew.heap.size = w3.heap.size := rfl
        omega
    have hurow : IRow w5 lo (.slice AU L.length cu) L := by
      have h1 : IRow w4 lo (.slice AU L.length cu) L := RowAt.mono hu (by have := HLO3.out; exact this)
      refine RowAt.keep h1 fun k hk' => hm5.block k (RowAt.lt h1 k hk').2 fun e => ?_
      have hk3 := HWL3.out k e
      have := (RowAt.lt hu k hk').1
      have h10 : w3.drew.heap.size = w3.heap.size := rfl
      omega
    have hfin := book_more HH.out hl250 hm5' s5 hr5 hv5 hap' rfl hurow (HAX.out ▸ HXW.out) HSM.out HBL.out hBe
    have HFIN := Lib.hid hfin
    have HU : Hid (∀ k, (Value.slice AU L.length cu).ownBlock = some k → w.heap.size ≤ k) := Lib.hid (fun k e => by
      have h1 := (RowAt.lt hu k e).1
      have h2 := HM3.out.size
      have h10 : w3.drew.heap.size = w3.heap.size := rfl
      omega)
    clear hfin hurow hap' hr5 hBe hm5' hwB hm35
    go_returns
    exact ⟨rfl, _, HFIN.out.1, HFIN.out.2.1, HFIN.out.2.2, HU.out⟩
theorem bookints_any (p lo : Nat) (ks : List (Option Nat × Nat)) (ts : List Value) (x : Option Nat × Nat) (L : List Int) (w : World) (h : BookAt w p lo ks ts) (hk : ks.length < 250) (hx : Ints w (keptV x) L) (hL : L.length ≤ 100000) (hsm : x.2 ≤ 100000 ∧ (x.1 = none → x.2 = 0))
    (hbl : ∀ g, x.1 = some g → (∃ cs : Array Value, Sits w g 3 cs ∧ cs.size = x.2) ∧ lo ≤ g ∧ ¬ KeptS ks g) (hlo : lo ≤ w.heap.size) :
    Calls Tryz.prog 15 #[.pointer (some ⟨p, 0, none⟩), keptV x] w fun e w' => e = .returned (.tuple #[]) ∧ ∃ u, BookAt w' p lo (ks ++ [x]) (ts ++ [u]) ∧ Many (BlkB w) w w' ∧ Below lo w w' :=
  (bookints_new p lo ks ts x L w h hk hx hL hsm hbl hlo).mono fun _ _ ⟨he, u, h1, h2, h3, _⟩ => ⟨he, u, h1, h2, h3⟩
end Go.Proofs.YtfjpoadmbdjmnaaGreat
