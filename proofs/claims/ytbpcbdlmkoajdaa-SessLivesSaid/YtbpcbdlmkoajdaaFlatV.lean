/- A region that draws its order, in one pass, where what holds of the world depends upon which operations have come up, and upon what each of them gave. -/
import Derived.Test.YtbpcbdlmkoajdaaFlat
namespace Go.Proofs.Ytbpcbdlmkoajdaa
open Go Go.RowKit
set_option maxRecDepth 100000

/-- What has come up, with one operation more. -/
def setv (d : Nat → Option Value) (i : Nat) (v : Value) : Nat → Option Value := fun j => if i = j then some v else d j
theorem setv_same (d : Nat → Option Value) (i : Nat) (v : Value) : setv d i v i = some v := if_pos rfl
theorem setv_other (d : Nat → Option Value) {i j : Nat} (v : Value) (h : i ≠ j) : setv d i v j = d j := if_neg h
def FactsV (a0 : Act) (all : List (Value → Prop)) (d : Nat → Option Value) (a : Act) : List (Nat × Option Nat) → Prop
  | [] => True
  | (t, none) :: r => a.tmps[t]? = a0.tmps[t]? ∧ FactsV a0 all d a r
  | (t, some j) :: r => (∃ v, (all.getD j fun _ => True) v ∧ a.tmps[t]? = some v ∧ d j = some v) ∧ FactsV a0 all d a r
def OneV (P : Program) (ops : Array Oper) (a0 : Act) (R : (Nat → Option Value) → World → Prop) (Q : Exit → Act → World → Prop) (all : List (Value → Prop)) (i : Nat) (o : Oper) (f : List (Nat × Option Nat)) (V : Value → Prop) : Prop :=
  ∀ a d w K, d i = none → (∀ e ∈ o.after, Region.binds .any e = true → (d e.on).isSome = true) → R d w → FactsV a0 all d a f → (∀ v w', R (setv d i v) w' → V v → K (a.put o.dst v) w') →
    if Region.wanted o (yielded ops a.tmps) = true then o.wp P a w K Q else K (a.put o.dst undef) w
def AllV (P : Program) (ops : Array Oper) (a0 : Act) (R : (Nat → Option Value) → World → Prop) (Q : Exit → Act → World → Prop) (all : List (Value → Prop)) : Nat → List Oper → List (List (Nat × Option Nat)) → List (Value → Prop) → Prop
  | i, o :: os, f :: fs, V :: Vs => OneV P ops a0 R Q all i o f V ∧ AllV P ops a0 R Q all (i + 1) os fs Vs
  | _, [], [], [] => True
  | _, _, _, _ => False
/-- The frame behind the region. -/
def FinV (a0 : Act) (all : List (Value → Prop)) (d : Nat → Option Value) : Nat → List (Option Nat) → (List Value → Prop) → Prop
  | _, [], k => k []
  | t, none :: r, k => FinV a0 all d (t + 1) r fun vs => k (a0.tmps.getD t undef :: vs)
  | t, some j :: r, k => ∀ v, (all.getD j fun _ => True) v → d j = some v → FinV a0 all d (t + 1) r fun vs => k (v :: vs)
section
variable {P : Program} {ops : Array Oper} {a0 : Act} {R : (Nat → Option Value) → World → Prop} {Q : Exit → Act → World → Prop} {all : List (Value → Prop)} {md : Region.Mode}
/-- What holds on the way. -/
structure OnWayV (md : Region.Mode) (ops : Array Oper) (a0 : Act) (R : (Nat → Option Value) → World → Prop) (all : List (Value → Prop)) (listed : Array Bool) (d : Nat → Option Value) (a : Act) (w : World) : Prop where
  world : R d w
  defers : a.defers = a0.defers
  size : a.tmps.size = a0.tmps.size
  told : ∀ i, listed.getD i false = false → d i = none
  come : ∀ i, listed.getD i false = true → (d i).isSome = true
  done : ∀ i t, dstAt ops i = some t → listed.getD i false = true → ∃ v, a.tmps[t]? = some v ∧ d i = some v ∧ (all.getD i fun _ => True) v
  rest : ∀ t, (∀ i, listed.getD i false = true → dstAt ops i ≠ some t) → a.tmps[t]? = a0.tmps[t]?
  closed : ∀ j o, ops[j]? = some o → listed.getD j false = true → ∀ e ∈ o.after, Region.binds md e = true → listed.getD e.on false = true
theorem allV_at : ∀ {os : List Oper} {fs : List (List (Nat × Option Nat))} {Vs : List (Value → Prop)} {k : Nat}, AllV P ops a0 R Q all k os fs Vs → ∀ {i : Nat} {o : Oper}, os[i]? = some o → ∃ V, Vs[i]? = some V ∧ OneV P ops a0 R Q all (k + i) o (fs.getD i []) V
  | o :: os, f :: fs, c :: cs, k, h, 0, o', ho => by
    simp only [List.getElem?_cons_zero, Option.some.injEq] at ho
    subst ho
    exact ⟨c, rfl, h.1⟩
  | o :: os, f :: fs, c :: cs, k, h, i + 1, o', ho => by
    simp only [List.getElem?_cons_succ] at ho
    obtain ⟨c', h1, h2⟩ := allV_at h.2 ho
    exact ⟨c', by simpa using h1, by rw [show k + (i + 1) = k + 1 + i by omega]; simpa using h2⟩
  | [], _, _, _, _, _, _, ho => by simp at ho
theorem factsV_of {listed : Array Bool} {d : Nat → Option Value} {a : Act} {w : World} (h : OnWayV md ops a0 R all listed d a w) : ∀ (f : List (Nat × Option Nat)), (∀ t, (t, none) ∈ f → ∀ j, listed.getD j false = true → dstAt ops j ≠ some t) → (∀ t j, (t, some j) ∈ f → dstAt ops j = some t ∧ listed.getD j false = true) → FactsV a0 all d a f
  | [], _, _ => trivial
  | (t, none) :: r, h1, h2 => ⟨h.rest t fun i hi => h1 t List.mem_cons_self i hi, factsV_of h r (fun t ht => h1 t (List.mem_cons_of_mem _ ht)) fun t j ht => h2 t j (List.mem_cons_of_mem _ ht)⟩
  | (t, some j) :: r, h1, h2 => ⟨by
      obtain ⟨v, hv, hd, hV⟩ := h.done j t (h2 t j List.mem_cons_self).1 (h2 t j List.mem_cons_self).2
      exact ⟨v, hV, hv, hd⟩, factsV_of h r (fun t ht => h1 t (List.mem_cons_of_mem _ ht)) fun t j ht => h2 t j (List.mem_cons_of_mem _ ht)⟩
theorem flat_anyV {tbl : List (List (Nat × Option Nat))} (hmd : md = Region.Mode.any) (ht : tableB md ops a0.tmps.size tbl = true) (hall : AllV P ops a0 R Q all 0 ops.toList tbl all)
    (hfin : ∀ a w, ∀ d : Nat → Option Value, (∀ i, i < ops.size → ∀ t, dstAt ops i = some t → ∃ v, a.tmps[t]? = some v ∧ d i = some v ∧ (all.getD i fun _ => True) v) → (∀ t, (∀ i, dstAt ops i ≠ some t) → a.tmps[t]? = a0.tmps[t]?) → (∀ i, i < ops.size → (d i).isSome = true) → R d w → a.defers = a0.defers → a.tmps.size = a0.tmps.size → Q .normal a w) :
    ∀ (fuel : Nat) (listed : Array Bool) (d : Nat → Option Value) (a : Act) (w : World), listed.size = ops.size → (List.range ops.size).countP (fun i => !listed.getD i true) ≤ fuel → OnWayV md ops a0 R all listed d a w → wpAny P md ops Q fuel listed a w := by
  have fin : ∀ (listed : Array Bool) (d : Nat → Option Value) (a : Act) (w : World), listed.size = ops.size → Region.ready md ops listed = [] → OnWayV md ops a0 R all listed d a w → Q .normal a w := by
    intro listed dv a w hsz hr hw
    have hl : ∀ i, i < ops.size → listed.getD i false = true := by
      intro i
      induction i using Nat.strongRecOn with
      | ind i ih =>
        intro hi
        cases hc : listed.getD i false with
        | true => rfl
        | false =>
          have ho := Array.getElem?_eq_getElem hi
          have ht := table_of ht ho
          have hm : i ∈ Region.ready md ops listed := ready_of ho (by rw [getD_two (by omega)]; exact hc) fun e he hb => by
            have := ht.after e he hb
            exact ih e.on this (by omega)
          rw [hr] at hm
          cases hm
    refine hfin a w dv (fun i hi d hd => hw.done i d hd (hl i hi)) (fun t h => hw.rest t fun i _ => h i) (fun i hi => hw.come i (hl i hi)) hw.world hw.defers hw.size
  intro fuel
  induction fuel with
  | zero =>
    intro listed dv a w hsz hc hw
    have hr : Region.ready md ops listed = [] := by
      cases e : Region.ready md ops listed with
      | nil => rfl
      | cons i r =>
        have hi : i ∈ Region.ready md ops listed := by rw [e]; exact List.mem_cons_self
        obtain ⟨o, ho, hlt, hl, _⟩ := ready_spec hi
        have := List.countP_pos_iff (p := fun i => !listed.getD i true) (l := List.range ops.size) |>.2 ⟨i, List.mem_range.2 hlt, by simp [hl]⟩
        omega
    exact ⟨hr, fin listed dv a w hsz hr hw⟩
  | succ fuel ih =>
    intro listed dv a w hsz hc hw
    refine ⟨fun hr => fin listed dv a w hsz hr hw, fun i hi => ?_⟩
    obtain ⟨o, ho, hlt, hl, haft⟩ := ready_spec hi
    have ht := table_of ht ho
    have ho' : ops.toList[i]? = some o := by rw [Array.getElem?_toList]; exact ho
    obtain ⟨V, hc1, hone⟩ := allV_at hall ho'
    rw [Nat.zero_add] at hone
    have hlf : listed.getD i false = false := by rw [← getD_two (by omega)]; exact hl
    have hd : dstAt ops i = o.dst := by rw [dstAt, ho]; rfl
    have hci : (all.getD i fun _ => True) = V := by
      rw [List.getD_eq_getElem?_getD, hc1]
      rfl
    have hstep := hone a dv w (wpAny P md ops Q fuel (listed.setIfInBounds i true)) (hw.told i hlf) (fun e he hb => hw.come _ (haft e he (hmd ▸ hb))) hw.world
      (factsV_of hw _ (fun t h j hj hd' => by
          have := behind_listed hw.closed _ _ (ht.free t h j hd') hj
          rw [hlf] at this
          cases this) fun t j h => by
        obtain ⟨h1, e, he, hb, rfl⟩ := ht.given t j h
        exact ⟨h1, haft e he hb⟩) (fun v w' hR' hVv => by
        refine ih _ (setv dv i v) _ _ (by rw [Array.size_setIfInBounds]; exact hsz) ?_ ⟨hR', ?_, ?_, ?_, ?_, ?_, ?_, ?_⟩
        · have := countP_less (p := fun i => !listed.getD i true) (q := fun j => !(listed.setIfInBounds i true).getD j true) (fun x hx => by
            rw [getD_set _ _ _ (by omega)] at hx
            by_cases e : i = x
            · simp [e] at hx
            · rwa [if_neg e] at hx) (List.mem_range.2 hlt) (by simp [hl]) (by rw [getD_set _ _ _ (by omega), if_pos rfl]; rfl)
          omega
        · rw [← hw.defers]; unfold Act.put; split <;> rfl
        · rw [← hw.size]; unfold Act.put; split <;> simp
        · intro j hlj
          rw [getD_set _ _ _ (by omega)] at hlj
          by_cases e : i = j
          · rw [if_pos e] at hlj; cases hlj
          · rw [if_neg e] at hlj
            rw [setv_other _ _ e]
            exact hw.told j hlj
        · intro j hlj
          rw [getD_set _ _ _ (by omega)] at hlj
          by_cases e : i = j
          · subst e; rw [setv_same]; rfl
          · rw [if_neg e] at hlj
            rw [setv_other _ _ e]
            exact hw.come j hlj
        · intro j d hj hlj
          rw [getD_set _ _ _ (by omega)] at hlj
          by_cases e : i = j
          · subst e
            rw [hd] at hj
            refine ⟨v, ?_, setv_same _ _ _, by rw [hci]; exact hVv⟩
            rw [hj]
            show (a.tmps.setIfInBounds d v)[d]? = some v
            have := ht.lt d hj
            rw [Array.getElem?_setIfInBounds_self_of_lt (by rw [hw.size]; exact this)]
          · rw [if_neg e] at hlj
            obtain ⟨u, hu, hdu, hVu⟩ := hw.done j d hj hlj
            refine ⟨u, ?_, by rw [setv_other _ _ e]; exact hdu, hVu⟩
            rw [← hu]
            unfold Act.put
            split
            · rename_i d' hd'
              have := ht.apart d' hd' j (fun h => e h.symm)
              rw [Array.getElem?_setIfInBounds_ne (fun h => this (by rw [hj, h]))]
            · rfl
        · intro t hun
          have hit : o.dst ≠ some t := by
            rw [← hd]
            exact hun i (by rw [getD_set _ _ _ (by omega), if_pos rfl])
          rw [← hw.rest t (fun j hj => hun j (by
            rw [getD_set _ _ _ (by omega)]
            split
            · rfl
            · exact hj))]
          unfold Act.put
          split
          · rename_i d' hd'
            rw [Array.getElem?_setIfInBounds_ne (fun h => hit (by rw [hd', h]))]
          · rfl
        · intro j o' ho' hlj e he hb
          rw [getD_set _ _ _ (by omega)]
          split
          · rfl
          · rw [getD_set _ _ _ (by omega)] at hlj
            by_cases e2 : i = j
            · subst e2
              rw [ho] at ho'
              cases ho'
              exact haft e he hb
            · rw [if_neg e2] at hlj
              exact hw.closed j o' ho' hlj e he hb)
    unfold wpOp
    rw [ho]
    simp only
    split
    · rename_i hwd
      rw [if_pos hwd] at hstep
      exact .inl hstep
    · rename_i hwd
      rw [if_neg hwd] at hstep
      exact hstep

theorem finV_of {a : Act} {d : Nat → Option Value} (hd : ∀ i, i < ops.size → ∀ t, dstAt ops i = some t → ∃ v, a.tmps[t]? = some v ∧ d i = some v ∧ (all.getD i fun _ => True) v) (hr : ∀ t, (∀ i, dstAt ops i ≠ some t) → a.tmps[t]? = a0.tmps[t]?) :
    ∀ (r : List (Option Nat)) (t : Nat) (k : List Value → Prop), (∀ s, s < r.length → match r.getD s none with | none => ∀ j, dstAt ops j ≠ some (t + s) | some j => dstAt ops j = some (t + s) ∧ j < ops.size) →
      FinV a0 all d t r k → k ((List.range r.length).map fun s => a.tmps.getD (t + s) undef)
  | [], t, k, _, h => h
  | none :: r, t, k, hs, h => by
    have h0 : ∀ j, dstAt ops j ≠ some (t + 0) := hs 0 (by simp)
    have e : a.tmps.getD t undef = a0.tmps.getD t undef := by
      rw [Array.getD_eq_getD_getElem?, Array.getD_eq_getD_getElem?, hr t h0]
    have := finV_of hd hr r (t + 1) _ (fun s hlt => by
      have := hs (s + 1) (by simp; omega)
      simpa [Nat.add_assoc, Nat.add_comm 1 s] using this) h
    rw [List.length_cons, List.range_succ_eq_map, List.map_cons, List.map_map, Nat.add_zero, e]
    simpa [Function.comp_def, Nat.add_assoc, Nat.add_comm 1] using this
  | some j :: r, t, k, hs, h => by
    have h0 : dstAt ops j = some (t + 0) ∧ j < ops.size := hs 0 (by simp)
    obtain ⟨v, hv, hdv, hV⟩ := hd j h0.2 t h0.1
    have e : a.tmps.getD t undef = v := by rw [Array.getD_eq_getD_getElem?, hv]; rfl
    have := finV_of hd hr r (t + 1) _ (fun s hlt => by
      have := hs (s + 1) (by simp; omega)
      simpa [Nat.add_assoc, Nat.add_comm 1 s] using this) (h v hV hdv)
    rw [List.length_cons, List.range_succ_eq_map, List.map_cons, List.map_map, Nat.add_zero, e]
    simpa [Function.comp_def, Nat.add_assoc, Nat.add_comm 1] using this
theorem wp_region_flatV {id : Nat} {w0 : World} (hm : P.follows .mixedOrders = true) (R : (Nat → Option Value) → World → Prop) (all : List (Value → Prop)) (tbl : List (List (Nat × Option Nat))) (src : List (Option Nat))
    (ht : tableB .any ops a0.tmps.size tbl = true) (hsrc : srcB ops a0.tmps.size src = true) (hR : R (fun _ => none) w0.drew) (hall : AllV P ops a0 R Q all 0 ops.toList tbl all)
    (hfin : ∀ d w, (∀ i, i < ops.size → (d i).isSome = true) → R d w → FinV a0 all d 0 src fun vs => Q .normal ⟨vs.toArray, a0.defers⟩ w) : (Code.region id ops true).wp P Q a0 w0 := by
  simp only [srcB, Bool.and_eq_true, decide_eq_true_eq] at hsrc
  obtain ⟨hlen, hsrc⟩ := hsrc
  refine wp_region_any hm (flat_anyV rfl ht hall ?_ _ _ (fun _ => none) _ _ (by simp) ?_ ⟨hR, rfl, rfl, fun _ _ => rfl, ?_, ?_, fun _ _ => rfl, ?_⟩)
  · intro a w dn hd hr hcome hRw hdef hsz
    have := finV_of (a0 := a0) (all := all) (a := a) hd hr src 0 _ (fun s hs => by
      have := List.all_eq_true.1 hsrc s (List.mem_range.2 (by omega))
      rw [Nat.zero_add]
      split
      · rename_i e
        rw [e] at this
        intro j
        by_cases hj : j < ops.size
        · have := List.all_eq_true.1 this j (List.mem_range.2 hj)
          simpa using this
        · rw [dstAt_none hj]; simp
      · rename_i e
        rw [e] at this
        simpa using this) (hfin dn w hcome hRw)
    have e : ((List.range src.length).map fun s => a.tmps.getD (0 + s) undef).toArray = a.tmps := by
      apply Array.ext
      · simp [hlen, hsz]
      · intro i h1 h2
        simp [h2]
    rw [e, ← hdef] at this
    exact this
  · refine Nat.le_trans (List.countP_le_length ..) (by simp)
  · intro i h
    rw [Array.getD_eq_getD_getElem?] at h
    simp only [Array.getElem?_replicate] at h
    split at h <;> simp at h
  · intro i d _ h
    rw [Array.getD_eq_getD_getElem?] at h
    simp only [Array.getElem?_replicate] at h
    split at h <;> simp at h
  · intro j o _ h
    rw [Array.getD_eq_getD_getElem?] at h
    simp only [Array.getElem?_replicate] at h
    split at h <;> simp at h

/-- The same, said operation by operation. -/
def ExV (P : Program) (ops : Array Oper) (a0 : Act) (R : (Nat → Option Value) → World → Prop) (Q : Exit → Act → World → Prop) (fin : List (Value → Prop) → Prop) : Nat → List Oper → List (List (Nat × Option Nat)) → List (Value → Prop) → Prop
  | i, o :: os, f :: fs, pre => ∃ V, OneV P ops a0 R Q pre i o f V ∧ ExV P ops a0 R Q fin (i + 1) os fs (pre ++ [V])
  | _, [], [], pre => fin pre
  | _, _, _, _ => False
theorem factsV_less {pre Vs : List (Value → Prop)} {d : Nat → Option Value} {a : Act} : ∀ {f : List (Nat × Option Nat)}, (∀ t j, (t, some j) ∈ f → j < pre.length) → FactsV a0 (pre ++ Vs) d a f → FactsV a0 pre d a f
  | [], _, _ => trivial
  | (t, none) :: r, hj, h => ⟨h.1, factsV_less (fun t j hm => hj t j (List.mem_cons_of_mem _ hm)) h.2⟩
  | (t, some j) :: r, hj, h => by
    refine ⟨?_, factsV_less (fun t j hm => hj t j (List.mem_cons_of_mem _ hm)) h.2⟩
    obtain ⟨v, h3, h1⟩ := h.1
    refine ⟨v, ?_, h1⟩
    have hlt := hj t j List.mem_cons_self
    rwa [List.getD_eq_getElem?_getD, List.getElem?_append_left hlt, ← List.getD_eq_getElem?_getD] at h3
theorem all_of_exV {fin : List (Value → Prop) → Prop} : ∀ {os : List Oper} {fs : List (List (Nat × Option Nat))} {pre : List (Value → Prop)} {k : Nat}, (∀ i t j, (t, some j) ∈ fs.getD i [] → j < pre.length + i) →
    ExV P ops a0 R Q fin k os fs pre → ∃ Vs, AllV P ops a0 R Q (pre ++ Vs) k os fs Vs ∧ fin (pre ++ Vs)
  | [], [], pre, _, _, h => ⟨[], trivial, by rw [List.append_nil]; exact h⟩
  | [], _ :: _, _, _, _, h => h.elim
  | _ :: _, [], _, _, _, h => h.elim
  | o :: os, f :: fs, pre, k, hj, ⟨V, h1, h2⟩ => by
    obtain ⟨Vs, h3, h4⟩ := all_of_exV (pre := pre ++ [V]) (fun i t j hm => by
      have := hj (i + 1) t j (by simpa using hm)
      simp
      omega) h2
    rw [List.append_assoc, List.singleton_append] at h3 h4
    exact ⟨V :: Vs, ⟨fun a d w K hd hA hR hF hK => h1 a d w K hd hA hR (factsV_less (fun t j hm => by have := hj 0 t j (by simpa using hm); simpa using this) hF) hK, h3⟩, h4⟩
theorem exV_length {fin : List (Value → Prop) → Prop} : ∀ {os : List Oper} {fs : List (List (Nat × Option Nat))} {pre : List (Value → Prop)} {k : Nat}, ExV P ops a0 R Q fin k os fs pre → fs.length = os.length
  | [], [], _, _, _ => rfl
  | [], _ :: _, _, _, h => h.elim
  | _ :: _, [], _, _, h => h.elim
  | _ :: _, _ :: _, _, _, ⟨_, _, h⟩ => by rw [List.length_cons, List.length_cons, exV_length h]
theorem wp_region_exV {id : Nat} {w0 : World} (hm : P.follows .mixedOrders = true) (R : (Nat → Option Value) → World → Prop) (tbl : List (List (Nat × Option Nat))) (src : List (Option Nat))
    (ht : tableB .any ops a0.tmps.size tbl = true) (hsrc : srcB ops a0.tmps.size src = true) (hR : R (fun _ => none) w0.drew)
    (h : ExV P ops a0 R Q (fun all => ∀ d w, (∀ i, i < ops.size → (d i).isSome = true) → R d w → FinV a0 all d 0 src fun vs => Q .normal ⟨vs.toArray, a0.defers⟩ w) 0 ops.toList tbl []) : (Code.region id ops true).wp P Q a0 w0 := by
  have hlen := exV_length h
  obtain ⟨Vs, h1, h2⟩ := all_of_exV (fun i t j hm => by
    have hi : i < ops.size := by
      false_or_by_contra
      rw [List.getD_eq_getElem?_getD, List.getElem?_eq_none (by rw [hlen, Array.length_toList]; omega)] at hm
      cases hm
    have hT := table_of ht (Array.getElem?_eq_getElem hi)
    obtain ⟨_, e, he, hb, rfl⟩ := hT.given t j hm
    have := hT.after e he hb
    simpa using this) h
  rw [List.nil_append] at h1 h2
  exact wp_region_flatV hm R Vs tbl src ht hsrc hR h1 h2
section
variable {fin : List (Value → Prop) → Prop} {pre : List (Value → Prop)} {o : Oper} {os : List Oper} {f : List (Nat × Option Nat)} {fs : List (List (Nat × Option Nat))} {i : Nat}
theorem exV_pure {c : Value} (hM : ∀ d w v, R d w → R (setv d i v) w)
    (h : ∀ a d w, R d w → FactsV a0 pre d a f → Region.wanted o (yielded ops a.tmps) = true ∧ (execOp a.eval o).run P w = .ok (.value c) w)
    (hr : ExV P ops a0 R Q fin (i + 1) os fs (pre ++ [fun v => v = c])) : ExV P ops a0 R Q fin i (o :: os) (f :: fs) pre := by
  refine ⟨_, fun a d w K _ _ hR hF hK => ?_, hr⟩
  obtain ⟨h1, h2⟩ := h a d w hR hF
  rw [if_pos h1]
  unfold Oper.wp
  rw [h2]
  exact hK c w (hM d w c hR) rfl
/-- An operation that hands on what another one gave. -/
theorem exV_move (V : Value → Prop) (hM : ∀ d w v, R d w → R (setv d i v) w)
    (h : ∀ a d w, R d w → FactsV a0 pre d a f → Region.wanted o (yielded ops a.tmps) = true ∧ ∃ c, (execOp a.eval o).run P w = .ok (.value c) w ∧ V c)
    (hr : ExV P ops a0 R Q fin (i + 1) os fs (pre ++ [V])) : ExV P ops a0 R Q fin i (o :: os) (f :: fs) pre := by
  refine ⟨V, fun a d w K _ _ hR hF hK => ?_, hr⟩
  obtain ⟨h1, c, h2, h3⟩ := h a d w hR hF
  rw [if_pos h1]
  unfold Oper.wp
  rw [h2]
  exact hK c w (hM d w c hR) h3
/-- The same, where the class knows what this operation gave. -/
theorem exV_hand (V : Value → Prop)
    (h : ∀ a d w, d i = none → R d w → FactsV a0 pre d a f → Region.wanted o (yielded ops a.tmps) = true ∧ ∃ c, (execOp a.eval o).run P w = .ok (.value c) w ∧ V c ∧ R (setv d i c) w)
    (hr : ExV P ops a0 R Q fin (i + 1) os fs (pre ++ [V])) : ExV P ops a0 R Q fin i (o :: os) (f :: fs) pre := by
  refine ⟨V, fun a d w K hd _ hR hF hK => ?_, hr⟩
  obtain ⟨h1, c, h2, h3, h4⟩ := h a d w hd hR hF
  rw [if_pos h1]
  unfold Oper.wp
  rw [h2]
  exact hK c w h4 h3
/-- An operation that turns the world. -/
theorem exV_step (V : Value → Prop)
    (h : ∀ a d w, d i = none → R d w → FactsV a0 pre d a f → Region.wanted o (yielded ops a.tmps) = true ∧ ∃ c w', (execOp a.eval o).run P w = .ok (.value c) w' ∧ V c ∧ R (setv d i c) w')
    (hr : ExV P ops a0 R Q fin (i + 1) os fs (pre ++ [V])) : ExV P ops a0 R Q fin i (o :: os) (f :: fs) pre := by
  refine ⟨V, fun a d w K hd _ hR hF hK => ?_, hr⟩
  obtain ⟨h1, c, w', h2, h3, h4⟩ := h a d w hd hR hF
  rw [if_pos h1]
  unfold Oper.wp
  rw [h2]
  exact hK c w' h4 h3
/-- An operation that turns the world and gives nothing. -/
theorem exV_store
    (h : ∀ a d w, d i = none → R d w → FactsV a0 pre d a f → Region.wanted o (yielded ops a.tmps) = true ∧ ∃ w', (execOp a.eval o).run P w = .ok .skip w' ∧ R (setv d i undef) w')
    (hr : ExV P ops a0 R Q fin (i + 1) os fs (pre ++ [fun _ => True])) : ExV P ops a0 R Q fin i (o :: os) (f :: fs) pre := by
  refine ⟨_, fun a d w K hd _ hR hF hK => ?_, hr⟩
  obtain ⟨h1, w', h2, h3⟩ := h a d w hd hR hF
  rw [if_pos h1]
  unfold Oper.wp
  rw [h2]
  exact hK undef w' h3 trivial
/-- The same, where it is known that those come up that this one is behind. -/
theorem exV_storeA
    (h : ∀ a d w, d i = none → (∀ e ∈ o.after, Region.binds .any e = true → (d e.on).isSome = true) → R d w → FactsV a0 pre d a f → Region.wanted o (yielded ops a.tmps) = true ∧ ∃ w', (execOp a.eval o).run P w = .ok .skip w' ∧ R (setv d i undef) w')
    (hr : ExV P ops a0 R Q fin (i + 1) os fs (pre ++ [fun _ => True])) : ExV P ops a0 R Q fin i (o :: os) (f :: fs) pre := by
  refine ⟨_, fun a d w K hd hA hR hF hK => ?_, hr⟩
  obtain ⟨h1, w', h2, h3⟩ := h a d w hd hA hR hF
  rw [if_pos h1]
  unfold Oper.wp
  rw [h2]
  exact hK undef w' h3 trivial
/-- A call, where it is known that those come up that it is behind. -/
theorem exV_callA (V : Value → Prop)
    (h : ∀ a d w, d i = none → (∀ e ∈ o.after, Region.binds .any e = true → (d e.on).isSome = true) → R d w → FactsV a0 pre d a f → Region.wanted o (yielded ops a.tmps) = true ∧ ∃ F args, (execOp a.eval o).run P w = .ok (.enter F args) w ∧ Calls P F args w fun e w' => ∃ v, e = .returned v ∧ R (setv d i v) w' ∧ V v)
    (hr : ExV P ops a0 R Q fin (i + 1) os fs (pre ++ [V])) : ExV P ops a0 R Q fin i (o :: os) (f :: fs) pre := by
  refine ⟨V, fun a d w K hd hA hR hF hK => ?_, hr⟩
  obtain ⟨h1, g, args, h2, h3⟩ := h a d w hd hA hR hF
  rw [if_pos h1]
  unfold Oper.wp
  rw [h2]
  refine h3.mono ?_
  rintro e w' ⟨v, rfl, hR', hV⟩
  exact hK v w' hR' hV
theorem exV_callv (V : Value → Prop)
    (h : ∀ a d w, d i = none → R d w → FactsV a0 pre d a f → Region.wanted o (yielded ops a.tmps) = true ∧ ∃ F args, (execOp a.eval o).run P w = .ok (.enter F args) w ∧ Calls P F args w fun e w' => ∃ v, e = .returned v ∧ R (setv d i v) w' ∧ V v)
    (hr : ExV P ops a0 R Q fin (i + 1) os fs (pre ++ [V])) : ExV P ops a0 R Q fin i (o :: os) (f :: fs) pre := by
  refine ⟨V, fun a d w K hd _ hR hF hK => ?_, hr⟩
  obtain ⟨h1, g, args, h2, h3⟩ := h a d w hd hR hF
  rw [if_pos h1]
  unfold Oper.wp
  rw [h2]
  refine h3.mono ?_
  rintro e w' ⟨v, rfl, hR', hV⟩
  exact hK v w' hR' hV
end
end
end Go.Proofs.Ytbpcbdlmkoajdaa
