/- ImapPlays' round behind its switch. -/
import Derived.Test.YtfbpmkecfmkffaaGreatIpB
import Derived.Test.YtfbpmkecfmkffaaGreatPartT
import Derived.Test.YtfbpmkecfmkffaaGreatPartS
namespace Go.Proofs.YtfbpmkecfmkffaaGreat
open Go Go.RowKit SpanP PartP ImapP
set_option maxRecDepth 1000000
set_option maxHeartbeats 4000000
set_option linter.unusedSimpArgs false

def leftS : Code → Code
  | .seq a _ => a
  | c => c
def rightS : Code → Code
  | .seq _ b => b
  | c => c
def blockS : Code → Code
  | .block _ c => c
  | c => c
noncomputable def inL : Code := blockS (leftS (rightS bodyL))
noncomputable def nextL : Code := rightS (rightS bodyL)
noncomputable def tailL : Code := rightS (rightS (rightS inL))
noncomputable def tail2L : Code := rightS tailL
noncomputable def tail3L : Code := rightS (rightS (rightS tail2L))
theorem body_split : bodyL = .seq (leftS bodyL) (.seq (.block 1 (.seq (leftS inL) (.seq (leftS (rightS inL)) (.seq (.seq (leftS (leftS (rightS (rightS inL)))) (.block 2 swL)) tailL)))) nextL) := by kernel_rfl
theorem tail_split : tailL = .seq (leftS tailL) tail2L := by kernel_rfl
theorem tail2_split : tail2L = .seq (leftS tail2L) (.seq (leftS (rightS tail2L)) (.seq (leftS (rightS (rightS tail2L))) tail3L)) := by kernel_rfl

/-- What stands once a round's three lists are told. -/
structure StT (w W : World) (mb kb ob : Nat) (rv xa xb xc : Value) (l P : List Pt) (C : List S) (nP nS : Nat) (N : Nat → Prop) (a : Op7) : Prop where
  map : MapAtI W mb l
  ref : QRow W 0 rv l
  ra : MRowI W w.heap.size xa l
  rb : MRowI W w.heap.size xb P
  rc : SRow W w.heap.size xc C
  book : Bk W kb w.heap.size nP nS N
  mine : w.heap.size ≤ mb
  low : Below w.heap.size w W
  op : Sits W ob 52 (opC a)
section
variable {w W W' : World} {mb kb ob nP nS : Nat} {rv xa xb xc : Value} {l P : List Pt} {C : List S} {N : Nat → Prop} {a : Op7}
theorem StT.below (h : StT w W mb kb ob rv xa xb xc l P C nP nS N a) (hb : Below W.heap.size W W') : StT w W' mb kb ob rv xa xb xc l P C nP nS N a :=
  ⟨h.map.below hb, h.ref.below hb, h.ra.below hb, h.rb.below hb, h.rc.below hb, h.book.below hb, h.mine, h.low.trans (hb.mono h.low.size), h.op.below' hb⟩
theorem StT.booked {nP' nS' : Nat} {N' : Nat → Prop} (h : StT w W mb kb ob rv xa xb xc l P C nP nS N a) (hb : Bk W' kb w.heap.size nP' nS' N') (hm : Many (BT W w.heap.size) W W') : StT w W' mb kb ob rv xa xb xc l P C nP' nS' N' a := by
  refine ⟨h.map.many hm fun k t cs hk hs => ?_, hm.kept h.ref fun k hk => ?_, hm.kept h.ra fun k hk => ?_, hm.kept h.rb fun k hk => ?_, hm.kept h.rc fun k hk => ?_, hb, h.mine, h.low.trans (hm.below (fun k hk => hk.1) h.low.size), h.op.many hm (BT.ne h.op (by decide) (by decide) (by decide))⟩
  · obtain ⟨_, t', cs', hs', ht⟩ := hk
    have e : t = t' := by
      have := (show W.heap[k]? = _ from hs).symm.trans hs'
      simp at this
      exact this.2
    subst e
    rcases ht with rfl | rfl | rfl <;> exact ⟨by decide, by decide⟩
  · obtain ⟨_, s⟩ := h.ref.sits k hk
    exact BT.ne s (by decide) (by decide) (by decide)
  · obtain ⟨_, s⟩ := h.ra.sits k hk
    exact BT.ne s (by decide) (by decide) (by decide)
  · obtain ⟨_, s⟩ := h.rb.sits k hk
    exact BT.ne s (by decide) (by decide) (by decide)
  · obtain ⟨_, s⟩ := h.rc.sits k hk
    exact BT.ne s (by decide) (by decide) (by decide)
theorem StT.cells (h : StT w W mb kb ob rv xa xb xc l P C nP nS N a) : W.cell? ⟨ob, 0, none⟩ = some (.int .i64 a.k) ∧ W.cell? ⟨ob, 1, none⟩ = some (.int .i64 a.v) ∧ W.cell? ⟨ob, 2, none⟩ = some (.int .i64 a.w) ∧ W.cell? ⟨ob, 3, none⟩ = some (.int .i64 a.s.1) ∧ W.cell? ⟨ob, 4, none⟩ = some (.int .i64 a.s.2) :=
  ⟨h.op.cell 0, h.op.cell 1, h.op.cell 2, h.op.cell 3, h.op.cell 4⟩
end
/-- The three calls' region: which have come up, and what they gave. -/
structure R34 (w3 : World) (l P : List Pt) (C : List S) (d : Nat → Option Value) (W : World) : Prop where
  low : Below w3.heap.size w3 W
  ra : ∀ v, d 1 = some v → MRowI W w3.heap.size v l
  rb : ∀ v, d 5 = some v → MRowI W w3.heap.size v P
  rc : ∀ v, d 9 = some v → SRow W w3.heap.size v C
  two : ∀ u v, d 1 = some u → d 5 = some v → ∀ g, u.ownBlock = some g → v.ownBlock ≠ some g
  ha : ∀ v, d 10 = some v → d 1 = some v
  hb : ∀ v, d 11 = some v → d 5 = some v
  hc : ∀ v, d 12 = some v → d 9 = some v
section
variable {w3 W W' : World} {l P : List Pt} {C : List S} {d : Nat → Option Value}
theorem R34.below (h : R34 w3 l P C d W) (hb : Below W.heap.size W W') : R34 w3 l P C d W' :=
  ⟨h.low.trans (hb.mono h.low.size), fun v e => (h.ra v e).below hb, fun v e => (h.rb v e).below hb, fun v e => (h.rc v e).below hb, h.two, h.ha, h.hb, h.hc⟩
theorem R34.one (h : R34 w3 l P C d W) (hd : d 1 = none) {x : Value} (hx : MRowI W' W.heap.size x l) (hb : Below W.heap.size W W') : R34 w3 l P C (setv d 1 x) W' := by
  have hB := h.below hb
  refine ⟨hB.low, fun v e => ?_, fun v e => hB.rb v e, fun v e => hB.rc v e, fun u v eu ev g hg hg' => ?_, fun v e => ?_, fun v e => hB.hb v e, fun v e => hB.hc v e⟩
  · obtain rfl : x = v := Option.some.inj e
    exact hx.mono h.low.size
  · obtain rfl : x = u := Option.some.inj eu
    have h1 := (hx.lt g hg).1
    have h2 := ((h.rb v ev).lt g hg').2
    omega
  · have := h.ha v e
    rw [hd] at this
    cases this
theorem R34.five (h : R34 w3 l P C d W) (hd : d 5 = none) {x : Value} (hx : MRowI W' W.heap.size x P) (hb : Below W.heap.size W W') : R34 w3 l P C (setv d 5 x) W' := by
  have hB := h.below hb
  refine ⟨hB.low, fun v e => hB.ra v e, fun v e => ?_, fun v e => hB.rc v e, fun u v eu ev g hg hg' => ?_, fun v e => hB.ha v e, fun v e => ?_, fun v e => hB.hc v e⟩
  · obtain rfl : x = v := Option.some.inj e
    exact hx.mono h.low.size
  · obtain rfl : x = v := Option.some.inj ev
    have h1 := (hx.lt g hg').1
    have h2 := ((h.ra u eu).lt g hg).2
    omega
  · have := h.hb v e
    rw [hd] at this
    cases this
theorem R34.nine (h : R34 w3 l P C d W) (hd : d 9 = none) {x : Value} (hx : SRow W' W.heap.size x C) (hb : Below W.heap.size W W') : R34 w3 l P C (setv d 9 x) W' := by
  have hB := h.below hb
  refine ⟨hB.low, fun v e => hB.ra v e, fun v e => hB.rb v e, fun v e => ?_, hB.two, fun v e => hB.ha v e, fun v e => hB.hb v e, fun v e => ?_⟩
  · obtain rfl : x = v := Option.some.inj e
    exact hx.mono h.low.size
  · have := h.hc v e
    rw [hd] at this
    cases this
theorem R34.ten (h : R34 w3 l P C d W) {x : Value} (hx : d 1 = some x) : R34 w3 l P C (setv d 10 x) W :=
  ⟨h.low, h.ra, h.rb, h.rc, h.two, fun v e => by obtain rfl : x = v := Option.some.inj e; exact hx, h.hb, h.hc⟩
theorem R34.eleven (h : R34 w3 l P C d W) {x : Value} (hx : d 5 = some x) : R34 w3 l P C (setv d 11 x) W :=
  ⟨h.low, h.ra, h.rb, h.rc, h.two, h.ha, fun v e => by obtain rfl : x = v := Option.some.inj e; exact hx, h.hc⟩
theorem R34.twelve (h : R34 w3 l P C d W) {x : Value} (hx : d 9 = some x) : R34 w3 l P C (setv d 12 x) W :=
  ⟨h.low, h.ra, h.rb, h.rc, h.two, h.ha, h.hb, fun v e => by obtain rfl : x = v := Option.some.inj e; exact hx⟩
end
theorem R34.start (w3 : World) (l P : List Pt) (C : List S) : R34 w3 l P C (fun _ => none) w3.drew :=
  ⟨(Below.refl _ _).drew, (fun v e => by cases e), (fun v e => by cases e), (fun v e => by cases e), (fun u v e => by cases e), (fun v e => by cases e), (fun v e => by cases e), (fun v e => by cases e)⟩
/-- Behind the three calls. -/
def Told7 (v1 v2 v9 v10 rv xa xb xc : Value) (mb ob : Nat) (a' : Act) : Prop := Kept7 v1 v2 v9 v10 rv mb ob a' ∧ a'.tmps.getD 16 undef = xa ∧ a'.tmps.getD 17 undef = xb ∧ a'.tmps.getD 18 undef = xc
theorem tail_one (f : Nat → Value) (w w3 : World) (mb kb ob : Nat) (rv : Value) (l : List Pt) (nP nS : Nat) (a : Op7) (Q : Exit → Act → World → Prop) (hST : StI w w3 mb kb ob rv l l nP nS a) (hl : l.length ≤ 200)
    (h7 : f 7 = .pointer (some ⟨mb, 0, none⟩)) (h11 : f 11 = .pointer (some ⟨ob, 0, none⟩))
    (hQ : ∀ a' w' xa xb xc B, Told7 (f 1) (f 2) (f 9) (f 10) (f 8) xa xb xc mb ob a' → StT w w' mb kb ob rv xa xb xc l (within a.s l) (withV a.v l) nP nS (fun g => g < B) a → (∀ g, xa.ownBlock = some g → B ≤ g) → (∀ g, xb.ownBlock = some g → B ≤ g) → (∀ g, xc.ownBlock = some g → B ≤ g) →
      (∀ g, xa.ownBlock = some g → xb.ownBlock ≠ some g) → Code.wp Tryz.prog tail2L Q a' w') :
    Code.wp Tryz.prog tailL Q ⟨frame f, []⟩ w3 := by
  obtain ⟨o0, o1, o2, o3, o4⟩ := hST.cells
  have hn := hST.map.norm
  have hnear : Ok a.s → Near a.s l (nearII a.s l) (nearJI a.s l) := fun hs => nearI_ok hn (by unfold Ok at hs; omega)
  have hpt := within_parts hnear hn
  have HAL : Hid (∀ W, Below w3.heap.size w3 W → Calls Tryz.prog 13 #[.pointer (some ⟨mb, 0, none⟩)] W fun e w' => ∃ x, e = .returned x ∧ MRowI w' W.heap.size x l ∧ Below W.heap.size W w') := Lib.hid fun W hW => allI_any mb l W (hST.map.below hW) (by omega)
  have HPA : Hid (∀ W, Below w3.heap.size w3 W → Calls Tryz.prog 14 #[.pointer (some ⟨mb, 0, none⟩), .agg #[.int .i64 a.s.1, .int .i64 a.s.2]] W fun e w' => ∃ x, e = .returned x ∧ MRowI w' W.heap.size x (within a.s l) ∧ Below W.heap.size W w') := Lib.hid fun W hW => by
    rw [hpt]
    exact partsI_any mb l a.s W (hST.map.below hW) (by omega)
  have HWI : Hid (∀ W, Below w3.heap.size w3 W → Calls Tryz.prog 15 #[.pointer (some ⟨mb, 0, none⟩), .int .i64 a.v] W fun e w' => ∃ x, e = .returned x ∧ SRow w' W.heap.size x (withV a.v l) ∧ Below W.heap.size W w') := Lib.hid fun W hW => with_any mb l a.v W (hST.map.below hW) (by omega)
  have HOB : Hid (ob < w3.heap.size) := Lib.hid hST.op.lt
  have HO := Lib.hid (And.intro o1 (And.intro o3 o4))
  have HST := Lib.hid hST
  have HQ := Lib.hid hQ
  clear hST hQ hl hn hnear hpt o0 o1 o2 o3 o4
  unfold frame
  rw [h7, h11]
  clear h7 h11
  rw [tail_split]
  conv => arg 2; arg 1; whnf
  go_wp2_with fail
  refine wp_region_exV (by kernel_rfl) (R34 w3 l (within a.s l) (withV a.v l))
    [[(7, none)], [(133, some 0)], [(7, none)], [(11, none)], [(136, some 3)], [(135, some 2), (137, some 4)], [(7, none)], [(11, none)], [(140, some 7)], [(139, some 6), (141, some 8)], [(134, some 1)], [(138, some 5)], [(142, some 9)]]
    [none, none, none, none, none, none, none, none, none, none, none, none, none, none, none, none, some 10, some 11, some 12, none, none, none, none, none, none, none, none, none, none, none, none, none, none, none, none, none, none, none, none, none, none, none, none, none, none, none, none, none, none, none, none, none, none, none, none, none, none, none, none, none, none, none, none, none, none, none, none, none, none, none, none, none, none, none, none, none, none, none, none, none, none, none, none, none, none, none, none, none, none, none, none, none, none, none, none, none, none, none, none, none, none, none, none, none, none, none, none, none, none, none, none, none, none, none, none, none, none, none, none, none, none, none, none, none, none, none, none, none, none, none, none, none, none, some 0, some 1, some 2, some 3, some 4, some 5, some 6, some 7, some 8, some 9, none, none, none, none, none, none, none, none, none, none, none, none, none, none, none, none, none, none, none, none, none, none, none, none, none, none, none, none, none, none, none, none, none, none, none, none, none, none, none, none, none, none, none, none, none, none, none, none, none, none, none, none, none, none, none, none, none, none, none, none, none, none, none, none, none] (by kernel_rfl) (by kernel_rfl) (R34.start _ _ _ _) ?_
  iterate 1
    refine exV_pure (c := ?_) (fun _ _ _ h => ⟨h.low, h.ra, h.rb, h.rc, h.two, h.ha, h.hb, h.hc⟩) ?_ ?_
    rotate_left
    · intro a' d' W hR hF
      simp only [FactsV, List.nil_append, List.cons_append, List.getD_cons_zero, List.getD_cons_succ, exists_eq_left, and_true, true_and, List.getElem?_toArray, List.getElem?_cons_zero, List.getElem?_cons_succ] at hF
      refine ⟨?_, ?_⟩
      · simp [Region.wanted, yielded, hF]
      · go_simp
        with_reducible rfl
  refine exV_callv (fun _ => True) (fun a' d' W hd hR hF => ?_) ?_
  · skip
    simp only [FactsV, List.nil_append, List.cons_append, List.getD_cons_zero, List.getD_cons_succ, exists_eq_left, and_true, true_and, List.getElem?_toArray, List.getElem?_cons_zero, List.getElem?_cons_succ] at hF
    exact ⟨by simp [Region.wanted, yielded, hF], 13, #[.pointer (some ⟨mb, 0, none⟩)], by go_simp, (HAL.out W hR.low).mono fun e w' ⟨x, he, hx, hb⟩ => ⟨x, he, hR.one hd hx hb, trivial⟩⟩
  iterate 3
    refine exV_pure (c := ?_) (fun _ _ _ h => ⟨h.low, h.ra, h.rb, h.rc, h.two, h.ha, h.hb, h.hc⟩) ?_ ?_
    rotate_left
    · intro a' d' W hR hF
      simp only [FactsV, List.nil_append, List.cons_append, List.getD_cons_zero, List.getD_cons_succ, exists_eq_left, and_true, true_and, List.getElem?_toArray, List.getElem?_cons_zero, List.getElem?_cons_succ] at hF
      have e3 := (hR.low.cell (p := ⟨ob, 3, none⟩) HOB.out).trans HO.out.2.1
      have e4 := (hR.low.cell (p := ⟨ob, 4, none⟩) HOB.out).trans HO.out.2.2
      refine ⟨?_, ?_⟩
      · simp [Region.wanted, yielded, hF]
      · go_simp
        with_reducible rfl
  refine exV_callv (fun _ => True) (fun a' d' W hd hR hF => ?_) ?_
  · skip
    simp only [FactsV, List.nil_append, List.cons_append, List.getD_cons_zero, List.getD_cons_succ, exists_eq_left, and_true, true_and, List.getElem?_toArray, List.getElem?_cons_zero, List.getElem?_cons_succ] at hF
    exact ⟨by simp [Region.wanted, yielded, hF], 14, #[.pointer (some ⟨mb, 0, none⟩), .agg #[.int .i64 a.s.1, .int .i64 a.s.2]], by go_simp, (HPA.out W hR.low).mono fun e w' ⟨x, he, hx, hb⟩ => ⟨x, he, hR.five hd hx hb, trivial⟩⟩
  iterate 3
    refine exV_pure (c := ?_) (fun _ _ _ h => ⟨h.low, h.ra, h.rb, h.rc, h.two, h.ha, h.hb, h.hc⟩) ?_ ?_
    rotate_left
    · intro a' d' W hR hF
      simp only [FactsV, List.nil_append, List.cons_append, List.getD_cons_zero, List.getD_cons_succ, exists_eq_left, and_true, true_and, List.getElem?_toArray, List.getElem?_cons_zero, List.getElem?_cons_succ] at hF
      have e1 := (hR.low.cell (p := ⟨ob, 1, none⟩) HOB.out).trans HO.out.1
      refine ⟨?_, ?_⟩
      · simp [Region.wanted, yielded, hF]
      · go_simp
        with_reducible rfl
  refine exV_callv (fun _ => True) (fun a' d' W hd hR hF => ?_) ?_
  · skip
    simp only [FactsV, List.nil_append, List.cons_append, List.getD_cons_zero, List.getD_cons_succ, exists_eq_left, and_true, true_and, List.getElem?_toArray, List.getElem?_cons_zero, List.getElem?_cons_succ] at hF
    exact ⟨by simp [Region.wanted, yielded, hF], 15, #[.pointer (some ⟨mb, 0, none⟩), .int .i64 a.v], by go_simp, (HWI.out W hR.low).mono fun e w' ⟨x, he, hx, hb⟩ => ⟨x, he, hR.nine hd hx hb, trivial⟩⟩
  refine exV_hand (fun _ => True) (fun a' d' W hd hR hF => ?_) ?_
  · skip
    simp only [FactsV, List.nil_append, List.cons_append, List.getD_cons_zero, List.getD_cons_succ, exists_eq_left, and_true, true_and, List.getElem?_toArray, List.getElem?_cons_zero, List.getElem?_cons_succ] at hF
    obtain ⟨v, hv, h134⟩ := hF
    exact ⟨by simp [Region.wanted, yielded], v, by simp [execOp, Act.eval, hv], trivial, hR.ten h134⟩
  refine exV_hand (fun _ => True) (fun a' d' W hd hR hF => ?_) ?_
  · skip
    simp only [FactsV, List.nil_append, List.cons_append, List.getD_cons_zero, List.getD_cons_succ, exists_eq_left, and_true, true_and, List.getElem?_toArray, List.getElem?_cons_zero, List.getElem?_cons_succ] at hF
    obtain ⟨v, hv, h138⟩ := hF
    exact ⟨by simp [Region.wanted, yielded], v, by simp [execOp, Act.eval, hv], trivial, hR.eleven h138⟩
  refine exV_hand (fun _ => True) (fun a' d' W hd hR hF => ?_) ?_
  · skip
    simp only [FactsV, List.nil_append, List.cons_append, List.getD_cons_zero, List.getD_cons_succ, exists_eq_left, and_true, true_and, List.getElem?_toArray, List.getElem?_cons_zero, List.getElem?_cons_succ] at hF
    obtain ⟨v, hv, h142⟩ := hF
    exact ⟨by simp [Region.wanted, yielded], v, by simp [execOp, Act.eval, hv], trivial, hR.twelve h142⟩
  show ∀ d W, _ → _
  intro d w6 hR2
  simp only [FinV, List.nil_append, List.cons_append, List.getD_cons_zero, List.getD_cons_succ, forall_eq, forall_const, true_implies, forall_exists_index, and_imp, Nat.reduceAdd, Array.getD_eq_getD_getElem?, List.getElem?_toArray, List.getElem?_cons_zero, List.getElem?_cons_succ, Option.getD_some]
  intro xa h10 xb h11 xc h12 _ v1 _ _ _ _ v5 _ _ _ _ v9 _
  have hra := hR2.ra xa (hR2.ha xa h10)
  have hrb := hR2.rb xb (hR2.hb xb h11)
  have hrc := hR2.rc xc (hR2.hc xc h12)
  have h6 := HST.out.below hR2.low
  have hlo := HST.out.low.size
  obtain ⟨N, hbk⟩ := HST.out.book
  have HT : Hid (StT w w6 mb kb ob rv xa xb xc l (within a.s l) (withV a.v l) nP nS (fun g => g < w3.heap.size) a) := Lib.hid ⟨h6.map, h6.ref, hra.mono hlo, hrb.mono hlo, hrc.mono hlo, hbk.base.below hR2.low, h6.mine, h6.low, h6.op⟩
  have HA : Hid ((∀ g, xa.ownBlock = some g → w3.heap.size ≤ g) ∧ (∀ g, xb.ownBlock = some g → w3.heap.size ≤ g) ∧ (∀ g, xc.ownBlock = some g → w3.heap.size ≤ g) ∧ ∀ g, xa.ownBlock = some g → xb.ownBlock ≠ some g) :=
    Lib.hid ⟨fun g hg => (hra.lt g hg).1, fun g hg => (hrb.lt g hg).1, fun g hg => (hrc.lt g hg).1, hR2.two xa xb (hR2.ha xa h10) (hR2.hb xb h11)⟩
  clear hR2 hra hrb hrc h6 hlo hbk h10 h11 h12
  go_wp2_with fail
  exact HQ.out _ w6 xa xb xc w3.heap.size ⟨⟨rfl, rfl, rfl, rfl, rfl, rfl, rfl, rfl, rfl⟩, rfl, rfl, rfl⟩ HT.out HA.out.1 HA.out.2.1 HA.out.2.2.1 HA.out.2.2.2
/-- The three lists are kept. -/
theorem tail_two (f : Nat → Value) (w w3 : World) (mb kb ob : Nat) (rv xa xb xc : Value) (l : List Pt) (nP nS B : Nat) (a : Op7) (Q : Exit → Act → World → Prop) (hST : StT w w3 mb kb ob rv xa xb xc l (within a.s l) (withV a.v l) nP nS (fun g => g < B) a) (hl : l.length ≤ 200) (hP : nP + 1 < 250) (hS : nS < 250)
    (na : ∀ g, xa.ownBlock = some g → B ≤ g) (nb : ∀ g, xb.ownBlock = some g → B ≤ g) (nc : ∀ g, xc.ownBlock = some g → B ≤ g) (nab : ∀ g, xa.ownBlock = some g → xb.ownBlock ≠ some g)
    (h7 : f 7 = .pointer (some ⟨mb, 0, none⟩)) (h9 : f 9 = .pointer (some ⟨kb, 0, none⟩)) (h11 : f 11 = .pointer (some ⟨ob, 0, none⟩)) (h16 : f 16 = xa) (h17 : f 17 = xb) (h18 : f 18 = xc)
    (hQ : ∀ a' w' N, Told7 (f 1) (f 2) (.pointer (some ⟨kb, 0, none⟩)) (f 10) (f 8) xa xb xc mb ob a' → StT w w' mb kb ob rv xa xb xc l (within a.s l) (withV a.v l) (nP + 2) (nS + 1) N a → Code.wp Tryz.prog tail3L Q a' w') :
    Code.wp Tryz.prog tail2L Q ⟨frame f, []⟩ w3 := by
  have h1 := bk_parts hST.book (by omega) hST.ra (by omega) (fun g hg => by have := na g hg; omega) hST.low.size
  have hx : ∀ g, xc.ownBlock = some g → xa.ownBlock ≠ some g ∧ xb.ownBlock ≠ some g := fun g hg => by
    obtain ⟨_, s⟩ := hST.rc.sits g hg
    refine ⟨fun e => ?_, fun e => ?_⟩
    · obtain ⟨_, s'⟩ := hST.ra.sits g e
      exact (s.apart s' (by decide)) rfl
    · obtain ⟨_, s'⟩ := hST.rb.sits g e
      exact (s.apart s' (by decide)) rfl
  have HX := Lib.hid (And.intro hx (And.intro nb (And.intro nc (And.intro nab (And.intro hl (And.intro hP hS))))))
  have HL2 : Hid ((within a.s l).length ≤ 200 ∧ (withV a.v l).length ≤ 200) := Lib.hid ⟨by have := within_length a.s l; omega, by have := withV_length a.v l; omega⟩
  have H1 := Lib.hid h1
  have HST := Lib.hid hST
  have HQ := Lib.hid hQ
  clear h1 hx na nb nc nab hl hP hS hST hQ
  unfold frame
  rw [h7, h9, h11, h16, h17, h18]
  clear h7 h9 h11 h16 h17 h18
  rw [tail2_split]
  conv => arg 2; arg 1; whnf
  conv => arg 2; arg 2; arg 1; whnf
  conv => arg 2; arg 2; arg 2; arg 1; whnf
  go_wp2_with fail
  refine H1.out.mono ?_
  rintro e w4 ⟨rfl, hb, hm⟩
  have h4 := HST.out.booked hb hm
  have h2 := bk_parts h4.book (by have := HX.out.2.2.2.2.2; omega) h4.rb (by have := HL2.out; omega) (fun g hg => by
    have := HX.out.2.1 g hg
    rintro (h | h)
    · omega
    · exact HX.out.2.2.2.1 g h hg) h4.low.size
  have H4 := Lib.hid h4
  have H2 := Lib.hid h2
  clear hb hm h4 h2
  go_wp2_with fail
  refine H2.out.mono ?_
  rintro e w5 ⟨rfl, hb, hm⟩
  have h5 := H4.out.booked hb hm
  have h3 := bk_spans h5.book (by have := HX.out.2.2.2.2.2; omega) h5.rc (by have := HL2.out; omega) (fun g hg => by
    have := HX.out.2.2.1 g hg
    have hn := HX.out.1 g hg
    rintro ((h | h) | h)
    · omega
    · exact hn.1 h
    · exact hn.2 h) h5.low.size
  have H5 := Lib.hid h5
  have H3 := Lib.hid h3
  clear hb hm h5 h3
  go_wp2_with fail
  refine H3.out.mono ?_
  rintro e w6 ⟨rfl, hb, hm⟩
  have H6 := Lib.hid (H5.out.booked hb hm)
  clear hb hm
  go_wp2_with fail
  exact HQ.out _ w6 _ ⟨⟨rfl, rfl, rfl, rfl, rfl, rfl, rfl, rfl, rfl⟩, rfl, rfl, rfl⟩ H6.out
/-- What is told is compared. -/
theorem tail_three (f : Nat → Value) (w w3 : World) (mb kb ob : Nat) (rv xa xb xc : Value) (l : List Pt) (nP nS : Nat) (N : Nat → Prop) (c : Int) (a : Op7) (Q : Exit → Act → World → Prop) (hST : StT w w3 mb kb ob rv xa xb xc l (within a.s l) (withV a.v l) nP nS N a) (hl : l.length ≤ 200)
    (h2 : f 2 = .int .i64 c) (h7 : f 7 = .pointer (some ⟨mb, 0, none⟩)) (h8 : f 8 = rv) (h9 : f 9 = .pointer (some ⟨kb, 0, none⟩)) (h11 : f 11 = .pointer (some ⟨ob, 0, none⟩)) (h16 : f 16 = xa) (h17 : f 17 = xb) (h18 : f 18 = xc)
    (hQ : ∀ a' w', Kept7 (f 1) (.int .i64 c) (.pointer (some ⟨kb, 0, none⟩)) (f 10) rv mb ob a' → StI w w' mb kb ob rv l l nP nS a → Q .normal a' w') :
    Code.wp Tryz.prog tail3L Q ⟨frame f, []⟩ w3 := by
  have hn := hST.map.norm
  obtain ⟨Ar, cr, rfl, hr1, hr2, -⟩ := Parts.read hST.ref.parts
  have h1 := getI_any mb l c w3 hST.map (by omega)
  obtain ⟨gv, hgv⟩ : ∃ gv, gv = (blockV l c).getD 0 := ⟨_, rfl⟩
  obtain ⟨gs, hgs⟩ : ∃ gs, gs = (blockV l c).isSome := ⟨_, rfl⟩
  have hrg : ∀ W : World, Parts W (.slice Ar l.length cr) l → Calls Tryz.prog 19 #[.slice Ar l.length cr, .int .i64 c] W fun e w' => e = .returned (.tuple #[.int .i64 ((blockV l c).getD 0), .bool (blockV l c).isSome]) ∧ W = w' := fun W hW =>
    (refget_any (.slice Ar l.length cr) l c W hW hn.ok).mono fun e w' ⟨he, hw⟩ => ⟨he, hw.symm⟩
  rw [← hgv, ← hgs] at h1
  simp only [← hgv, ← hgs] at hrg
  have e1 : ((gv : Int) != gv) = false := by simp
  have e2 : (gs != gs) = false := by cases gs <;> rfl
  have e3 : ((l.length : Int) != (l.length : Int)) = false := by simp
  have hlen : (l.length : Int) ≤ 200 := by omega
  have H1 := Lib.hid h1
  have HRG := Lib.hid hrg
  have HL := Lib.hid hl
  have HST := Lib.hid hST
  have HQ := Lib.hid hQ
  clear h1 hrg hgv hgs hl hST hQ hn hr1 hr2
  unfold frame
  rw [h2, h7, h8, h9, h11, h16, h17, h18]
  clear h2 h7 h8 h9 h11 h16 h17 h18
  conv => arg 2; whnf
  go_wp2_with fail
  refine H1.out.mono ?_
  rintro e w4 ⟨rfl, hb⟩
  have H4 := Lib.hid (HST.out.below hb)
  clear hb
  go_wp2_with fail
  refine (HRG.out w4 H4.out.ref.parts).mono ?_
  rintro e w5 ⟨rfl, rfl⟩
  have h5 := same7_any xa (.slice Ar l.length cr) l w4 H4.out.ra.parts H4.out.ref.parts
  have H5 := Lib.hid h5
  clear h5
  go_wp2_with fail
  refine H5.out.mono ?_
  rintro e w6 ⟨rfl, n6, rfl⟩
  obtain ⟨w6, hw6⟩ : ∃ w6, w6 = w4.drewN n6 := ⟨_, rfl⟩
  rw [← hw6]
  have H6 := Lib.hid (H4.out.below (show Below w4.heap.size w4 w6 by rw [hw6]; exact below_drewN (Below.refl _ _) n6))
  clear hw6
  obtain ⟨p0, p1, p2, p3, p4⟩ := H6.out.cells
  have h7 := refparts_any (.slice Ar l.length cr) l a.s w6 H6.out.ref.parts (by have := HL.out; omega)
  have H7 := Lib.hid h7
  clear h7
  go_wp2_with fail
  refine H7.out.mono ?_
  rintro e w7 ⟨r7, rfl, hr, hb⟩
  have h8 := same7_any xb r7 (within a.s l) w7 (H6.out.below hb).rb.parts hr.parts
  have HS7 := Lib.hid (H6.out.below hb)
  have H8 := Lib.hid h8
  clear h8 hr hb p0 p1 p2 p3 p4
  go_wp2_with fail
  refine H8.out.mono ?_
  rintro e w8 ⟨rfl, n8, rfl⟩
  obtain ⟨w8, hw8⟩ : ∃ w8, w8 = w7.drewN n8 := ⟨_, rfl⟩
  rw [← hw8]
  have HS8 := Lib.hid (HS7.out.below (show Below w7.heap.size w7 w8 by rw [hw8]; exact below_drewN (Below.refl _ _) n8))
  clear hw8
  obtain ⟨p0, p1, p2, p3, p4⟩ := HS8.out.cells
  have h9 := refwith_any (.slice Ar l.length cr) l a.v w8 HS8.out.ref.parts (by have := HL.out; omega)
  have H9 := Lib.hid h9
  clear h9
  go_wp2_with fail
  refine H9.out.mono ?_
  rintro e w9 ⟨r9, rfl, hr, hb⟩
  have h10 := eqSpans_yes xc r9 (withV a.v l) w9 (HS8.out.below hb).rc.spans hr.spans
  have HS9 := Lib.hid (HS8.out.below hb)
  have H10 := Lib.hid h10
  clear h10 hr hb p0 p1 p2 p3 p4
  go_wp2_with fail
  refine H10.out.mono ?_
  rintro e w10 ⟨rfl, n10, rfl⟩
  obtain ⟨w10, hw10⟩ : ∃ w10, w10 = w9.drewN n10 := ⟨_, rfl⟩
  rw [← hw10]
  have HS10 := Lib.hid (HS9.out.below (show Below w9.heap.size w9 w10 by rw [hw10]; exact below_drewN (Below.refl _ _) n10))
  clear hw10
  go_wp2_with fail
  refine (mlen_any mb l w10 HS10.out.map).mono ?_
  rintro e w11 ⟨rfl, rfl⟩
  go_wp2_with fail
  have h := HS10.out
  exact HQ.out _ _ ⟨rfl, rfl, rfl, rfl, rfl, rfl, rfl, rfl, rfl⟩ ⟨h.map, h.ref, h.map.norm, ⟨_, h.book⟩, h.mine, h.low, h.op⟩
end Go.Proofs.YtfbpmkecfmkffaaGreat
