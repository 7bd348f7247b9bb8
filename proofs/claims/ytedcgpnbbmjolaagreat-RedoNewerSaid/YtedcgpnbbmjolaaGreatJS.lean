/- Redo. -/
import Derived.Test.YtedcgpnbbmjolaaGreatJR
import Derived.Test.YtedcgpnbbmjolaaGreatHK
import Derived.Test.YtedcgpnbbmjolaaGreatHC
import Derived.Test.YtedcgpnbbmjolaaGreatGA
import Derived.Test.YtedcgpnbbmjolaaGreatGJ
import Derived.Laws.MakeOwn
namespace Go.Proofs.YtedcgpnbbmjolaaGreat
section
open Go Go.RowKit DskP WlP SupP
set_option maxRecDepth 100000
set_option maxHeartbeats 1000000
set_option linter.unusedSimpArgs false

def WlP.lg0 (s : Sh) (node : Int) (ep : Nat) : Lg := ⟨node.toNat, ep, (1 + (node - 1) * s.l).toNat, (s.l - 1).toNat, false, 1, 1, 0, 0, [], [], 0, 0⟩
theorem WlP.lg0_ok {s : Sh} (h : Valid s) {node : Int} (h1 : 1 ≤ node) (h2 : node ≤ s.n) {ep : Nat} (he : (ep : Int) < 18446744073709551616) : LgOk (lg0 s node ep) := by
  have hn := h.n2
  have hl1 := h.l1
  have hl2 := h.l2
  have hm := mul_bound (n := node - 1) (by omega) (by omega) (show 0 ≤ s.l by omega) h.l2
  refine ⟨by show node.toNat ≤ 16; omega, he, by show (1 + (node - 1) * s.l).toNat ≤ 1000000; omega, by show 1 ≤ (s.l - 1).toNat; omega, by show (s.l - 1).toNat ≤ 1000; omega, rfl, rfl, by show 1 ≤ 0 + 1; omega, Nat.le_refl _, (fun x hx => by cases hx), rfl, Nat.zero_le _, by show 0 < (s.l - 1).toNat; omega, (fun x hx => by cases hx), by show 1 ≤ 1000000000; omega⟩
theorem At.make {S : Nat → Prop} {w0 w W : World} {d p k q r : Nat} {G : Lg} {D : Dsk} (h : At (DP d D) S w0 w) (hS : ∀ i, w0.heap.size ≤ i → S i) (hb : Below w.heap.size w W) (hk : w.heap.size ≤ k) (hq : w.heap.size ≤ q) (hp : w.heap.size ≤ p)
    (hpk : p ≠ k) (hpq : p ≠ q) (hE : RingE W k k r []) (hR : RingS W q q r []) (hs : Sits W p 206 (lgc d k q G)) (h1 : G.places + 1 = r) (h2 : G.kept = []) (h3 : G.pend = []) : At (LDP d p k q G D) S w0 W := by
  have hkq : k ≠ q := by
    intro e
    obtain ⟨_, _, _, _, e1⟩ := hE.head
    obtain ⟨_, _, _, _, e2⟩ := hR.head
    exact e1.apart e2 (by decide) e
  have hw := h.many.size
  refine ⟨⟨fun i => S i ∧ i < w.heap.size, fun i => i = p ∨ i = k ∨ i = q, (holdD d D).keep ((holdD d D).less h.here) fun i hi _ => hb.block i hi.2, ⟨fun i => i = p, fun i => i = k ∨ i = q, ⟨rfl, hs⟩, ⟨fun i => i = k, fun i => i = q, ?_, ?_, ?_, ?_⟩, ?_, ?_⟩, ?_, ?_⟩, h.many.then hb⟩
  · rw [h1, h2]
    exact ⟨k, rfl, rfl, hE⟩
  · rw [h1, h3]
    exact ⟨q, rfl, rfl, hR⟩
  · rintro i rfl e
    exact hkq e
  · rintro i (e | e)
    · exact .inl e
    · exact .inr e
  · rintro i rfl (e | e)
    · exact hpk e
    · exact hpq e
  · rintro i (e | e | e)
    · exact .inl e
    · exact .inr (.inl e)
    · exact .inr (.inr e)
  · rintro i hi (e | e | e) <;> have := hi.2 <;> omega
  · rintro i (e | e | e | e)
    · exact e.1
    · exact hS i (by omega)
    · exact hS i (by omega)
    · exact hS i (by omega)
theorem At.disk {S : Nat → Prop} {w0 w : World} {d p k q : Nat} {G : Lg} {D : Dsk} (h : At (LDP d p k q G D) S w0 w) : At (DP d D) S w0 w := by
  obtain ⟨⟨S1, S2, h1, _, _, h4⟩, hm⟩ := h
  exact ⟨(holdD d D).mono h1 fun i hi => h4 i (.inl hi), hm⟩
structure Opened (S : Nat → Prop) (w0 : World) (d : Nat) (x : Nat × Lg × Dsk) (e : Ending) (w : World) : Prop where
  ok : x.1 = 0 → ∃ p k q, e = .returned (.tuple #[.pointer (some ⟨p, 0, none⟩), .int .i64 0]) ∧ At (LDP d p k q x.2.1 x.2.2) S w0 w
  no : x.1 ≠ 0 → e = .returned (.tuple #[.pointer none, .int .i64 (x.1 : Int)]) ∧ At (DP d x.2.2) S w0 w
theorem lgopen_any {S : Nat → Prop} {w0 w : World} (d : Nat) (D : Dsk) (s : Sh) (hv : Valid s) (node : Int) (h1 : 1 ≤ node) (h2 : node ≤ s.n) (ep : Nat) (he : (ep : Int) < 18446744073709551616) (hc : D.count ≤ 990000) (hS : ∀ i, w0.heap.size ≤ i → S i) (h : At (DP d D) S w0 w) :
    Calls Tryz.prog 33 #[.pointer (some ⟨d, 0, none⟩), aggH s, .int .i64 node, .int .u64 (ep : Int)] w fun e w' => Opened S w0 d (wbegin (lg0 s node ep) D 1 0) e w' := by
  have hok := lg0_ok hv h1 h2 he
  have hl1 := hv.l1
  have hl2 := hv.l2
  have hlt := h.here
  have hm := mul_bound (n := node - 1) (by have := hv.n2; omega) (by have := hv.n2; omega) (show 0 ≤ s.l by omega) hl2
  obtain ⟨hd, hhd⟩ : ∃ x : Nat, (x : Int) = 1 + (node - 1) * s.l := ⟨(1 + (node - 1) * s.l).toNat, by omega⟩
  obtain ⟨r, hr⟩ : ∃ r : Nat, (r : Int) = s.l := ⟨s.l.toNat, by omega⟩
  obtain ⟨nd, hnd⟩ : ∃ x : Nat, (x : Int) = node := ⟨node.toNat, by omega⟩
  obtain ⟨pl, hpl⟩ : ∃ x : Nat, (x : Int) = (r : Int) - 1 := ⟨r - 1, by omega⟩
  have hG : lg0 s node ep = ⟨nd, ep, hd, pl, false, 1, 1, 0, 0, [], [], 0, 0⟩ := by
    unfold lg0
    rw [← hhd, ← hr, ← hpl, ← hnd, Int.toNat_natCast, Int.toNat_natCast, Int.toNat_natCast]
  have HLA := Lib.hid (slogat_ok s hv node h1 h2)
  have HNE := Lib.hid fun W => newE_any (r : Int) W r (by omega)
  have HNS := Lib.hid fun W => newS_any (r : Int) W r (by omega)
  rw [hG] at hok ⊢
  have e1 : IntKind.i64.wrap ((r : Int) - 1) = (pl : Int) := by rw [← hpl]; exact IntWalk.i64_in _ (by omega)
  have HBG := Lib.hid fun p k q W (hW : At (LDP d p k q ⟨nd, ep, hd, pl, false, 1, 1, 0, 0, [], [], 0, 0⟩ D) S w0 W) => (lgbegin_any d p k q _ D hok (by omega) 1 0 (by decide)).at_ hS hW
  have HH := Lib.hid h
  have HPL : Hid (pl + 1 = r) := Lib.hid (by omega)
  obtain ⟨sn, sb, sl, sc, st⟩ := s
  unfold aggH at HLA ⊢
  simp only at hr HLA hhd
  rw [← hhd] at HLA
  subst hr
  subst hnd
  generalize wbegin ⟨nd, ep, hd, pl, false, 1, 1, 0, 0, [], [], 0, 0⟩ D 1 0 = X at HBG ⊢
  have hsz := h.here.mem
  clear h hv h1 h2 he hc hok hl1 hl2 hlt hm hhd hpl hG hsz
  obtain ⟨W1, hW1⟩ : ∃ W, W = w.alloc (.cells #[.int .i64 sn, .int .i64 sb, .int .i64 (r : Int), .int .i64 sc, .int .i64 st] 31) := ⟨_, rfl⟩
  have hb : Below w.heap.size w W1 := hW1 ▸ (Below.refl _ w).alloc (Nat.le_refl _) _
  have hs1 : Sits W1 w.heap.size 31 #[.int .i64 sn, .int .i64 sb, .int .i64 (r : Int), .int .i64 sc, .int .i64 st] := hW1 ▸ Sits.fresh w _ _
  have HB1 := Lib.hid hb
  have HS1 := Lib.hid hs1
  have z0 : W1.cell? ⟨w.heap.size, 0, none⟩ = some (.int .i64 sn) := hs1.cell 0
  have z1 : W1.cell? ⟨w.heap.size, 1, none⟩ = some (.int .i64 sb) := hs1.cell 1
  have z2 : W1.cell? ⟨w.heap.size, 2, none⟩ = some (.int .i64 (r : Int)) := hs1.cell 2
  have z3 : W1.cell? ⟨w.heap.size, 3, none⟩ = some (.int .i64 sc) := hs1.cell 3
  have z4 : W1.cell? ⟨w.heap.size, 4, none⟩ = some (.int .i64 st) := hs1.cell 4
  clear hb hs1
  go_enter Tryz.func33, Tryz.ntmps33
  go_wp2_with fail
  rw [← hW1]
  clear hW1
  refine (HLA.out W1).mono ?_
  rintro e w2 ⟨rfl, hb⟩
  have HB2 := Lib.hid (HB1.out.trans (hb.mono HB1.out.size))
  have hs2 := HS1.out.below' hb
  have hlt2 := hs2.lt
  have y2 : w2.cell? ⟨w.heap.size, 2, none⟩ = some (.int .i64 (r : Int)) := hs2.cell 2
  clear hb hs2 z0 z1 z2 z3 z4
  have HFN : Hid (∀ W k q, Below w2.heap.size w2 W → w2.heap.size ≤ k → w2.heap.size ≤ q → k < W.heap.size → q < W.heap.size → RingE W k k r [] → RingS W q q r [] → At (LDP d W.heap.size k q ⟨nd, ep, hd, pl, false, 1, 1, 0, 0, [], [], 0, 0⟩ D) S w0 (W.alloc (.cells (lgc d k q ⟨nd, ep, hd, pl, false, 1, 1, 0, 0, [], [], 0, 0⟩) 206))) := Lib.hid fun W k q hW hk hq hkW hqW hE hR => by
    have hs := HB2.out.size
    have hz := hW.size
    have hal : Below W.heap.size W (W.alloc (.cells (lgc d k q ⟨nd, ep, hd, pl, false, 1, 1, 0, 0, [], [], 0, 0⟩) 206)) := (Below.refl _ W).alloc (Nat.le_refl _) _
    exact At.make HH.out hS ((HB2.out.trans (hW.mono hs)).trans (hal.mono (by omega))) (by omega) (by omega) (by omega) (by omega) (by omega) (hE.below hal) (hR.below hal) (Sits.fresh W _ _) HPL.out rfl rfl
  go_wp2_with fail
  refine wp_region_ex (by kernel_rfl) (fun W => Below w2.heap.size w2 W) (fun W W' => Below W.heap.size W W')
    [[(0, none)], [(2, none)], [(3, none)], [(10, none)], [(5, none)], [(29, some 4)], [(30, some 5)], [(31, some 6)], [(5, none)], [(33, some 8)], [(34, some 9)], [(35, some 10)], [(5, none)], [(37, some 12)], [(38, some 13)], [(39, some 14)], [(25, some 0), (26, some 1), (27, some 2), (28, some 3), (32, some 7), (36, some 11), (40, some 15)], [(41, some 16)], [(42, some 17)]]
    [none, none, none, none, none, none, none, none, none, none, none, none, some 18, none, none, none, none, none, none, none, none, none, none, none, none, some 0, some 1, some 2, some 3, some 4, some 5, some 6, some 7, some 8, some 9, some 10, some 11, some 12, some 13, some 14, some 15, some 16, some 17, none, none, none, none, none, none, none, none, none, none, none, none, none, none] (by kernel_rfl) (by kernel_rfl) ((Below.refl _ _).drew) ?_
  iterate 11
    refine ex_pure (c := ?_) (fun _ _ => Below.refl _ _) ?_ ?_
    rotate_left
    · intro a' W hR hF
      simp only [FactsOf, List.nil_append, List.cons_append, List.getD_cons_zero, List.getD_cons_succ, exists_eq_left, and_true, List.getElem?_toArray, List.getElem?_cons_zero, List.getElem?_cons_succ] at hF
      have y2' := (hR.cell (p := ⟨w.heap.size, 2, none⟩) hlt2).trans y2
      refine ⟨?_, ?_⟩
      · simp [Region.wanted, yielded, hF]
      · go_simp
        with_reducible rfl
  refine ex_callv (fun v W => ∃ k, v = .pointer (some ⟨k, 0, none⟩) ∧ w2.heap.size ≤ k ∧ k < W.heap.size ∧ RingE W k k r []) (fun v W W' _ hS ⟨k, h1, h2, h3, h4⟩ => ⟨k, h1, h2, Nat.lt_of_lt_of_le h3 hS.size, h4.below hS⟩) (fun a' W hR hF => ?_) ?_
  · skip
    simp only [FactsOf, List.nil_append, List.cons_append, List.getD_cons_zero, List.getD_cons_succ, exists_eq_left, and_true, List.getElem?_toArray, List.getElem?_cons_zero, List.getElem?_cons_succ] at hF
    exact ⟨by simp [Region.wanted, yielded, hF], 154, #[.int .i64 (r : Int)], by go_simp, (HNE.out W).mono fun e w' ⟨he, hE, hb⟩ => ⟨_, he, hR.trans (hb.mono hR.size), hb, _, rfl, hR.size, hE.lt.1, hE⟩⟩
  iterate 3
    refine ex_pure (c := ?_) (fun _ _ => Below.refl _ _) ?_ ?_
    rotate_left
    · intro a' W hR hF
      simp only [FactsOf, List.nil_append, List.cons_append, List.getD_cons_zero, List.getD_cons_succ, exists_eq_left, and_true, List.getElem?_toArray, List.getElem?_cons_zero, List.getElem?_cons_succ] at hF
      have y2' := (hR.cell (p := ⟨w.heap.size, 2, none⟩) hlt2).trans y2
      refine ⟨?_, ?_⟩
      · simp [Region.wanted, yielded, hF]
      · go_simp
        with_reducible rfl
  refine ex_callv (fun v W => ∃ k, v = .pointer (some ⟨k, 0, none⟩) ∧ w2.heap.size ≤ k ∧ k < W.heap.size ∧ RingS W k k r []) (fun v W W' _ hS ⟨k, h1, h2, h3, h4⟩ => ⟨k, h1, h2, Nat.lt_of_lt_of_le h3 hS.size, h4.below hS⟩) (fun a' W hR hF => ?_) ?_
  · skip
    simp only [FactsOf, List.nil_append, List.cons_append, List.getD_cons_zero, List.getD_cons_succ, exists_eq_left, and_true, List.getElem?_toArray, List.getElem?_cons_zero, List.getElem?_cons_succ] at hF
    exact ⟨by simp [Region.wanted, yielded, hF], 155, #[.int .i64 (r : Int)], by go_simp, (HNS.out W).mono fun e w' ⟨he, hE, hb⟩ => ⟨_, he, hR.trans (hb.mono hR.size), hb, _, rfl, hR.size, hE.lt.1, hE⟩⟩
  refine ex_val (fun v W => ∃ k q, v = .agg (lgc d k q ⟨nd, ep, hd, pl, false, 1, 1, 0, 0, [], [], 0, 0⟩) ∧ w2.heap.size ≤ k ∧ w2.heap.size ≤ q ∧ k < W.heap.size ∧ q < W.heap.size ∧ RingE W k k r [] ∧ RingS W q q r []) (fun v W W' _ hS ⟨k, q, h1, h2, h3, h4, h5, h6, h7⟩ => ⟨k, q, h1, h2, h3, Nat.lt_of_lt_of_le h4 hS.size, Nat.lt_of_lt_of_le h5 hS.size, h6.below hS, h7.below hS⟩) (fun a' W hR hF => ?_) ?_
  · skip
    simp only [FactsOf, List.nil_append, List.cons_append, List.getD_cons_zero, List.getD_cons_succ, exists_eq_left, and_true, List.getElem?_toArray, List.getElem?_cons_zero, List.getElem?_cons_succ] at hF
    obtain ⟨t25, t26, t27, t28, t32, ⟨v1, ⟨k, rfl, hk1, hk2, hE⟩, t36⟩, ⟨v2, ⟨q, rfl, hq1, hq2, hRR⟩, t40⟩⟩ := hF
    refine ⟨by simp [Region.wanted, yielded, t25, t26, t27, t28, t32, t36, t40], .agg (lgc d k q ⟨nd, ep, hd, pl, false, 1, 1, 0, 0, [], [], 0, 0⟩), W, ?_, hR, Below.refl _ _, k, q, rfl, hk1, hq1, hk2, hq2, hE, hRR⟩
    go_simp
    rfl
  refine ex_val (fun v W => ∃ p k q, v = .pointer (some ⟨p, 0, none⟩) ∧ At (LDP d p k q ⟨nd, ep, hd, pl, false, 1, 1, 0, 0, [], [], 0, 0⟩ D) S w0 W) (fun v W W' _ hS ⟨p, k, q, h1, h2⟩ => ⟨p, k, q, h1, h2.down (holdLD d p k q _ D) hS⟩) (fun a' W hR hF => ?_) ?_
  · skip
    simp only [FactsOf, List.nil_append, List.cons_append, List.getD_cons_zero, List.getD_cons_succ, exists_eq_left, and_true, List.getElem?_toArray, List.getElem?_cons_zero, List.getElem?_cons_succ] at hF
    obtain ⟨v1, ⟨k, q, rfl, hk1, hq1, hk2, hq2, hE, hRR⟩, t41⟩ := hF
    refine ⟨by simp [Region.wanted, yielded, t41], .pointer (some ⟨W.heap.size, 0, none⟩), W.alloc (.cells (lgc d k q ⟨nd, ep, hd, pl, false, 1, 1, 0, 0, [], [], 0, 0⟩) 206), ?_, hR.alloc hR.size _, (Below.refl _ _).alloc (Nat.le_refl _) _, W.heap.size, k, q, rfl, HFN.out W k q hR hk1 hq1 hk2 hq2 hE hRR⟩
    unfold lgc at t41 ⊢
    go_simp
    try with_reducible rfl
  refine ex_val (fun v W => ∃ p k q, v = .pointer (some ⟨p, 0, none⟩) ∧ At (LDP d p k q ⟨nd, ep, hd, pl, false, 1, 1, 0, 0, [], [], 0, 0⟩ D) S w0 W) (fun v W W' _ hS ⟨p, k, q, h1, h2⟩ => ⟨p, k, q, h1, h2.down (holdLD d p k q _ D) hS⟩) (fun a' W hR hF => ?_) ?_
  · skip
    simp only [FactsOf, List.nil_append, List.cons_append, List.getD_cons_zero, List.getD_cons_succ, exists_eq_left, and_true, List.getElem?_toArray, List.getElem?_cons_zero, List.getElem?_cons_succ] at hF
    obtain ⟨v1, ⟨p, k, q, rfl, hA⟩, t42⟩ := hF
    refine ⟨by simp [Region.wanted, yielded, t42], .pointer (some ⟨p, 0, none⟩), W, ?_, hR, Below.refl _ _, p, k, q, rfl, hA⟩
    go_simp
    try with_reducible rfl
  show ∀ W, _ → _
  intro w3 hR2
  simp only [FinOf, List.nil_append, List.cons_append, List.getD_cons_zero, List.getD_cons_succ, forall_eq, forall_exists_index, and_imp, Nat.reduceAdd, Array.getD_eq_getD_getElem?, List.getElem?_toArray, List.getElem?_cons_zero, List.getElem?_cons_succ, Option.getD_some]
  intro v p k q hv hA
  subst hv
  have HA := Lib.hid hA
  clear hA
  intros
  have hs3 := HA.out.sits
  have c6 : w3.cell? ⟨p, 6, none⟩ = some (.int .u64 1) := hs3.cell 6
  have c13 : w3.cell? ⟨p, 13, none⟩ = some (.int .i64 0) := hs3.cell 13
  have HAD := Lib.hid fun j => HBG.out p k q _ (HA.out.down (holdLD d p k q _ D) (below_drewN (Below.refl w3.heap.size w3) j))
  clear hs3
  subst_vars
  obtain ⟨xr, XG, XD⟩ := X
  simp only at HAD
  by_cases hx : xr = 0
  · subst hx
    go_wp2_with fail
    go_region_with (refine (HAD.out 1).mono ?_; rintro e w4 ⟨rfl, hA⟩)
    all_goals
      have HA4 := Lib.hid hA
      clear hA
      go_wp2
      go_ret2
      exact ⟨fun _ => ⟨_, _, _, rfl, HA4.out⟩, fun h => absurd rfl h⟩
  · have d1 : ((xr : Int) != 0) = true := by rw [bne_iff_ne]; omega
    have HX := Lib.hid hx
    clear hx
    go_wp2_with fail
    go_region_with (refine (HAD.out 1).mono ?_; rintro e w4 ⟨rfl, hA⟩)
    all_goals
      have HA4 := Lib.hid hA
      clear hA
      go_wp2
      go_ret2
      exact ⟨fun h => absurd h HX.out, fun _ => ⟨rfl, HA4.out.disk⟩⟩
section
variable {d p k q : Nat} {G : Lg} {w : World}
end
end
section
open Go Go.RowKit DskP WlP SupP
set_option maxRecDepth 100000
set_option maxHeartbeats 1000000
set_option linter.unusedSimpArgs false

def NoLog (v : Value) (w : World) : Prop := v = .pointer none ∨ ∃ p, v = .pointer (some ⟨p, 0, none⟩) ∧ p < w.heap.size ∧ w.cell? ⟨p, 0, none⟩ = some (.pointer none)
theorem NoLog.below {v : Value} {w w' : World} (h : NoLog v w) (hb : Below w.heap.size w w') : NoLog v w' := by
  rcases h with h | ⟨p, h1, h2, h3⟩
  · exact .inl h
  · exact .inr ⟨p, h1, Nat.lt_of_lt_of_le h2 hb.size, (hb.cell (p := ⟨p, 0, none⟩) h2).trans h3⟩
end
section
open Go Go.RowKit
set_option maxRecDepth 100000
set_option maxHeartbeats 1000000
set_option linter.unusedSimpArgs false

theorem ims_one (w : World) (i : Im) : Ims (w.alloc (.cells #[.int .i64 i.b, .int .u64 (i.v : Int), .string (str i.d)] 94)) (.slice (some ⟨w.heap.size, 0, none⟩) 1 1) [i] := by
  refine ⟨some ⟨w.heap.size, 0, none⟩, 1, rfl, Nat.le_refl _, by omega, fun k hk => ⟨w.heap.size, 0, rfl, by simp, fun j u hu => ?_⟩⟩
  obtain rfl : k = 0 := by simpa using hk
  rw [show 0 + 0 * 3 + j = j by omega, (Sits.fresh w 94 _).cell j]
  simpa [encIm] using hu
end
end Go.Proofs.YtedcgpnbbmjolaaGreat
