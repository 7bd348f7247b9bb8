/- A region that draws its order, in one pass, where what holds of the world depends upon which operations have come up: for calls that turn memory, in whatever order. -/
import Derived.Test.YtfjpoadmbdjmnaaGreatFlat
namespace Go.Proofs.YtfjpoadmbdjmnaaGreat
open Go Go.RowKit
set_option maxRecDepth 100000

/-- What has come up, with one operation more. -/
def mark (d : Nat → Bool) (i : Nat) : Nat → Bool := fun j => if i = j then true else d j
def OneD (P : Program) (ops : Array Oper) (a0 : Act) (R : (Nat → Bool) → World → Prop) (Q : Exit → Act → World → Prop) (all : List (Value → World → Prop)) (i : Nat) (o : Oper) (f : List (Nat × Option Nat)) (c : Value) : Prop :=
  ∀ a d w K, d i = false → R d w → FactsOf a0 all a w f → (∀ w', R (mark d i) w' → K (a.put o.dst c) w') →
    if Region.wanted o (yielded ops a.tmps) = true then o.wp P a w K Q else K (a.put o.dst undef) w
def Is (c : Value) : Value → World → Prop := fun v _ => v = c
def AllD (P : Program) (ops : Array Oper) (a0 : Act) (R : (Nat → Bool) → World → Prop) (Q : Exit → Act → World → Prop) (all : List (Value → World → Prop)) : Nat → List Oper → List (List (Nat × Option Nat)) → List Value → Prop
  | i, o :: os, f :: fs, c :: cs => OneD P ops a0 R Q all i o f c ∧ AllD P ops a0 R Q all (i + 1) os fs cs
  | _, [], [], [] => True
  | _, _, _, _ => False
section
variable {P : Program} {ops : Array Oper} {a0 : Act} {R : (Nat → Bool) → World → Prop} {Q : Exit → Act → World → Prop} {all : List (Value → World → Prop)} {md : Region.Mode}
theorem allD_at : ∀ {os : List Oper} {fs : List (List (Nat × Option Nat))} {cs : List Value} {k : Nat}, AllD P ops a0 R Q all k os fs cs → ∀ {i : Nat} {o : Oper}, os[i]? = some o → ∃ c, cs[i]? = some c ∧ OneD P ops a0 R Q all (k + i) o (fs.getD i []) c
  | o :: os, f :: fs, c :: cs, k, h, 0, o', ho => by
    simp only [List.getElem?_cons_zero, Option.some.injEq] at ho
    subst ho
    exact ⟨c, rfl, h.1⟩
  | o :: os, f :: fs, c :: cs, k, h, i + 1, o', ho => by
    simp only [List.getElem?_cons_succ] at ho
    obtain ⟨c', h1, h2⟩ := allD_at h.2 ho
    exact ⟨c', by simpa using h1, by rw [show k + (i + 1) = k + 1 + i by omega]; simpa using h2⟩
  | [], _, _, _, _, _, _, ho => by simp at ho
theorem flat_anyD {tbl : List (List (Nat × Option Nat))} (ht : tableB md ops a0.tmps.size tbl = true) {cs : List Value} (hcs : all = cs.map Is) (hall : AllD P ops a0 R Q all 0 ops.toList tbl cs)
    (hfin : ∀ a w, (∀ i, i < ops.size → ∀ d, dstAt ops i = some d → ∃ v, a.tmps[d]? = some v ∧ (all.getD i fun _ _ => True) v w) → (∀ t, (∀ i, dstAt ops i ≠ some t) → a.tmps[t]? = a0.tmps[t]?) → (∃ d : Nat → Bool, (∀ i, i < ops.size → d i = true) ∧ R d w) → a.defers = a0.defers → a.tmps.size = a0.tmps.size → Q .normal a w) :
    ∀ (fuel : Nat) (listed : Array Bool) (a : Act) (w : World), listed.size = ops.size → (List.range ops.size).countP (fun i => !listed.getD i true) ≤ fuel → OnWay md ops a0 (R fun i => listed.getD i false) all listed a w → wpAny P md ops Q fuel listed a w := by
  have fin : ∀ (listed : Array Bool) (a : Act) (w : World), listed.size = ops.size → Region.ready md ops listed = [] → OnWay md ops a0 (R fun i => listed.getD i false) all listed a w → Q .normal a w := by
    intro listed a w hsz hr hw
    have hl : ∀ i, i < ops.size → listed.getD i false = true := by
      intro i
      induction i using Nat.strongRecOn with
      | ind i ih =>
        intro hi
        cases hc : listed.getD i false with
        | true => rfl
        | false =>
          have ho := Array.getElem?_eq_getElem hi
          have ht := table_of ht ho
          have hm : i ∈ Region.ready md ops listed := ready_of ho (by rw [getD_two (by omega)]; exact hc) fun e he hb => by
            have := ht.after e he hb
            exact ih e.on this (by omega)
          rw [hr] at hm
          cases hm
    refine hfin a w (fun i hi d hd => hw.done i d hd (hl i hi)) (fun t h => hw.rest t fun i _ => h i) ⟨_, hl, hw.world⟩ hw.defers hw.size
  intro fuel
  induction fuel with
  | zero =>
    intro listed a w hsz hc hw
    have hr : Region.ready md ops listed = [] := by
      cases e : Region.ready md ops listed with
      | nil => rfl
      | cons i r =>
        have hi : i ∈ Region.ready md ops listed := by rw [e]; exact List.mem_cons_self
        obtain ⟨o, ho, hlt, hl, _⟩ := ready_spec hi
        have := List.countP_pos_iff (p := fun i => !listed.getD i true) (l := List.range ops.size) |>.2 ⟨i, List.mem_range.2 hlt, by simp [hl]⟩
        omega
    exact ⟨hr, fin listed a w hsz hr hw⟩
  | succ fuel ih =>
    intro listed a w hsz hc hw
    refine ⟨fun hr => fin listed a w hsz hr hw, fun i hi => ?_⟩
    obtain ⟨o, ho, hlt, hl, haft⟩ := ready_spec hi
    have ht := table_of ht ho
    have ho' : ops.toList[i]? = some o := by rw [Array.getElem?_toList]; exact ho
    obtain ⟨c, hc1, hone⟩ := allD_at hall ho'
    rw [Nat.zero_add] at hone
    have hlf : listed.getD i false = false := by rw [← getD_two (by omega)]; exact hl
    have hd : dstAt ops i = o.dst := by rw [dstAt, ho]; rfl
    have hstab : ∀ j v (w w' : World), (all.getD j fun _ _ => True) v w → (all.getD j fun _ _ => True) v w' := by
      intro j v w w' hv
      rw [hcs, List.getD_eq_getElem?_getD, List.getElem?_map] at hv ⊢
      cases e : cs[j]? with
      | none => trivial
      | some c => rw [e] at hv; exact hv
    have hci : (all.getD i fun _ _ => True) = Is c := by
      rw [hcs, List.getD_eq_getElem?_getD, List.getElem?_map, hc1]
      rfl
    have hstep := hone a _ w (wpAny P md ops Q fuel (listed.setIfInBounds i true)) hlf hw.world
      (facts_of hw _ (fun t h j hj hd' => by
          have := behind_listed hw.closed _ _ (ht.free t h j hd') hj
          rw [hlf] at this
          cases this) fun t j h => by
        obtain ⟨h1, e, he, hb, rfl⟩ := ht.given t j h
        exact ⟨h1, haft e he hb⟩) (fun w' hR' => by
        refine ih _ _ _ (by rw [Array.size_setIfInBounds]; exact hsz) ?_ ⟨?_, ?_, ?_, ?_, ?_, ?_⟩
        · have := countP_less (p := fun i => !listed.getD i true) (q := fun j => !(listed.setIfInBounds i true).getD j true) (fun x hx => by
            rw [getD_set _ _ _ (by omega)] at hx
            by_cases e : i = x
            · simp [e] at hx
            · rwa [if_neg e] at hx) (List.mem_range.2 hlt) (by simp [hl]) (by rw [getD_set _ _ _ (by omega), if_pos rfl]; rfl)
          omega
        · have : (fun j => (listed.setIfInBounds i true).getD j false) = mark (fun i => listed.getD i false) i := by
            funext j
            rw [getD_set _ _ _ (by omega)]
            rfl
          rw [this]
          exact hR'
        · rw [← hw.defers]; unfold Act.put; split <;> rfl
        · rw [← hw.size]; unfold Act.put; split <;> simp
        · intro j d hj hlj
          rw [getD_set _ _ _ (by omega)] at hlj
          by_cases e : i = j
          · subst e
            rw [hd] at hj
            refine ⟨c, ?_, by rw [hci]; exact rfl⟩
            rw [hj]
            show (a.tmps.setIfInBounds d c)[d]? = some c
            have := ht.lt d hj
            rw [Array.getElem?_setIfInBounds_self_of_lt (by rw [hw.size]; exact this)]
          · rw [if_neg e] at hlj
            obtain ⟨u, hu, hVu⟩ := hw.done j d hj hlj
            refine ⟨u, ?_, hstab j u w w' hVu⟩
            rw [← hu]
            unfold Act.put
            split
            · rename_i d' hd'
              have := ht.apart d' hd' j (fun h => e h.symm)
              rw [Array.getElem?_setIfInBounds_ne (fun h => this (by rw [hj, h]))]
            · rfl
        · intro t hun
          have hit : o.dst ≠ some t := by
            rw [← hd]
            exact hun i (by rw [getD_set _ _ _ (by omega), if_pos rfl])
          rw [← hw.rest t (fun j hj => hun j (by
            rw [getD_set _ _ _ (by omega)]
            split
            · rfl
            · exact hj))]
          unfold Act.put
          split
          · rename_i d' hd'
            rw [Array.getElem?_setIfInBounds_ne (fun h => hit (by rw [hd', h]))]
          · rfl
        · intro j o' ho' hlj e he hb
          rw [getD_set _ _ _ (by omega)]
          split
          · rfl
          · rw [getD_set _ _ _ (by omega)] at hlj
            by_cases e2 : i = j
            · subst e2
              rw [ho] at ho'
              cases ho'
              exact haft e he hb
            · rw [if_neg e2] at hlj
              exact hw.closed j o' ho' hlj e he hb)
    unfold wpOp
    rw [ho]
    simp only
    split
    · rename_i hwd
      rw [if_pos hwd] at hstep
      exact .inl hstep
    · rename_i hwd
      rw [if_neg hwd] at hstep
      exact hstep

theorem wp_region_flatD {id : Nat} {w0 : World} (hm : P.follows .mixedOrders = true) (R : (Nat → Bool) → World → Prop) (cs : List Value) (tbl : List (List (Nat × Option Nat))) (src : List (Option Nat))
    (ht : tableB .any ops a0.tmps.size tbl = true) (hsrc : srcB ops a0.tmps.size src = true) (hR : R (fun _ => false) w0.drew) (hall : AllD P ops a0 R Q (cs.map Is) 0 ops.toList tbl cs)
    (hfin : ∀ d w, (∀ i, i < ops.size → d i = true) → R d w → FinOf a0 (cs.map Is) w 0 src fun vs => Q .normal ⟨vs.toArray, a0.defers⟩ w) : (Code.region id ops true).wp P Q a0 w0 := by
  simp only [srcB, Bool.and_eq_true, decide_eq_true_eq] at hsrc
  obtain ⟨hlen, hsrc⟩ := hsrc
  refine wp_region_any hm (flat_anyD ht rfl hall ?_ _ _ _ _ (by simp) ?_ ⟨?_, rfl, rfl, ?_, fun _ _ => rfl, ?_⟩)
  · rintro a w hd hr ⟨dn, hdn, hRw⟩ hdef hsz
    have := fin_of (a0 := a0) (all := cs.map Is) (a := a) (w := w) hd hr src 0 _ (fun s hs => by
      have := List.all_eq_true.1 hsrc s (List.mem_range.2 (by omega))
      rw [Nat.zero_add]
      split
      · rename_i e
        rw [e] at this
        intro j
        by_cases hj : j < ops.size
        · have := List.all_eq_true.1 this j (List.mem_range.2 hj)
          simpa using this
        · rw [dstAt_none hj]; simp
      · rename_i e
        rw [e] at this
        simpa using this) (hfin dn w hdn hRw)
    have e : ((List.range src.length).map fun s => a.tmps.getD (0 + s) undef).toArray = a.tmps := by
      apply Array.ext
      · simp [hlen, hsz]
      · intro i h1 h2
        simp [h2]
    rw [e, ← hdef] at this
    exact this
  · refine Nat.le_trans (List.countP_le_length ..) (by simp)
  · have : (fun i => (Array.replicate ops.size false).getD i false) = fun _ => false := by
      funext i
      rw [Array.getD_eq_getD_getElem?, Array.getElem?_replicate]
      split <;> rfl
    rw [this]
    exact hR
  · intro i d _ h
    rw [Array.getD_eq_getD_getElem?] at h
    simp only [Array.getElem?_replicate] at h
    split at h <;> simp at h
  · intro j o _ h
    rw [Array.getD_eq_getD_getElem?] at h
    simp only [Array.getElem?_replicate] at h
    split at h <;> simp at h

/-- The same, said operation by operation. -/
def ExD (P : Program) (ops : Array Oper) (a0 : Act) (R : (Nat → Bool) → World → Prop) (Q : Exit → Act → World → Prop) (fin : List Value → Prop) : Nat → List Oper → List (List (Nat × Option Nat)) → List Value → Prop
  | i, o :: os, f :: fs, pre => ∃ c, OneD P ops a0 R Q (pre.map Is) i o f c ∧ ExD P ops a0 R Q fin (i + 1) os fs (pre ++ [c])
  | _, [], [], pre => fin pre
  | _, _, _, _ => False
theorem all_of_exD {fin : List Value → Prop} : ∀ {os : List Oper} {fs : List (List (Nat × Option Nat))} {pre : List Value} {k : Nat}, (∀ i t j, (t, some j) ∈ fs.getD i [] → j < pre.length + i) →
    ExD P ops a0 R Q fin k os fs pre → ∃ cs, AllD P ops a0 R Q ((pre ++ cs).map Is) k os fs cs ∧ fin (pre ++ cs)
  | [], [], pre, _, _, h => ⟨[], trivial, by rw [List.append_nil]; exact h⟩
  | [], _ :: _, _, _, _, h => h.elim
  | _ :: _, [], _, _, _, h => h.elim
  | o :: os, f :: fs, pre, k, hj, ⟨c, h1, h2⟩ => by
    obtain ⟨cs, h3, h4⟩ := all_of_exD (pre := pre ++ [c]) (fun i t j hm => by
      have := hj (i + 1) t j (by simpa using hm)
      simp
      omega) h2
    rw [List.append_assoc, List.singleton_append] at h3 h4
    refine ⟨c :: cs, ⟨fun a d w K hd hR hF hK => h1 a d w K hd hR ?_ hK, h3⟩, h4⟩
    rw [List.map_append] at hF
    exact facts_less (fun t j hm => by have := hj 0 t j (by simpa using hm); simpa using this) hF
theorem exD_length {fin : List Value → Prop} : ∀ {os : List Oper} {fs : List (List (Nat × Option Nat))} {pre : List Value} {k : Nat}, ExD P ops a0 R Q fin k os fs pre → fs.length = os.length
  | [], [], _, _, _ => rfl
  | [], _ :: _, _, _, h => h.elim
  | _ :: _, [], _, _, h => h.elim
  | _ :: _, _ :: _, _, _, ⟨_, _, h⟩ => by rw [List.length_cons, List.length_cons, exD_length h]
theorem wp_region_exD {id : Nat} {w0 : World} (hm : P.follows .mixedOrders = true) (R : (Nat → Bool) → World → Prop) (tbl : List (List (Nat × Option Nat))) (src : List (Option Nat))
    (ht : tableB .any ops a0.tmps.size tbl = true) (hsrc : srcB ops a0.tmps.size src = true) (hR : R (fun _ => false) w0.drew)
    (h : ExD P ops a0 R Q (fun cs => ∀ d w, (∀ i, i < ops.size → d i = true) → R d w → FinOf a0 (cs.map Is) w 0 src fun vs => Q .normal ⟨vs.toArray, a0.defers⟩ w) 0 ops.toList tbl []) : (Code.region id ops true).wp P Q a0 w0 := by
  have hlen := exD_length h
  obtain ⟨cs, h1, h2⟩ := all_of_exD (fun i t j hm => by
    have hi : i < ops.size := by
      false_or_by_contra
      rw [List.getD_eq_getElem?_getD, List.getElem?_eq_none (by rw [hlen, Array.length_toList]; omega)] at hm
      cases hm
    have hT := table_of ht (Array.getElem?_eq_getElem hi)
    obtain ⟨_, e, he, hb, rfl⟩ := hT.given t j hm
    have := hT.after e he hb
    simpa using this) h
  rw [List.nil_append] at h1 h2
  exact wp_region_flatD hm R cs tbl src ht hsrc hR h1 h2
section
variable {fin : List Value → Prop} {pre : List Value} {o : Oper} {os : List Oper} {f : List (Nat × Option Nat)} {fs : List (List (Nat × Option Nat))} {i : Nat}
theorem exD_pure {c : Value} (hM : ∀ d w, R d w → R (mark d i) w)
    (h : ∀ a d w, R d w → FactsOf a0 (pre.map Is) a w f → Region.wanted o (yielded ops a.tmps) = true ∧ (execOp a.eval o).run P w = .ok (.value c) w)
    (hr : ExD P ops a0 R Q fin (i + 1) os fs (pre ++ [c])) : ExD P ops a0 R Q fin i (o :: os) (f :: fs) pre := by
  refine ⟨c, fun a d w K _ hR hF hK => ?_, hr⟩
  obtain ⟨h1, h2⟩ := h a d w hR hF
  rw [if_pos h1]
  unfold Oper.wp
  rw [h2]
  exact hK w (hM d w hR)
theorem exD_callx (c : Value)
    (h : ∀ a d w, d i = false → R d w → FactsOf a0 (pre.map Is) a w f → Region.wanted o (yielded ops a.tmps) = true ∧ ∃ F args, (execOp a.eval o).run P w = .ok (.enter F args) w ∧ Calls P F args w fun e w' => e = .returned c ∧ R (mark d i) w')
    (hr : ExD P ops a0 R Q fin (i + 1) os fs (pre ++ [c])) : ExD P ops a0 R Q fin i (o :: os) (f :: fs) pre := by
  refine ⟨c, fun a d w K hd hR hF hK => ?_, hr⟩
  obtain ⟨h1, g, args, h2, h3⟩ := h a d w hd hR hF
  rw [if_pos h1]
  unfold Oper.wp
  rw [h2]
  refine h3.mono ?_
  rintro e w' ⟨rfl, hR'⟩
  exact hK w' hR'
end
end
end Go.Proofs.YtfjpoadmbdjmnaaGreat
