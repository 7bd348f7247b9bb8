/- A region that draws its order, in one pass: what each operation gives, said once for whatever order; no order is parted. -/
import Derived.Test.YtbpcbdlmkoajdaaKit
import Derived.Orders
import Derived.Deep.Draws
namespace Go.Proofs.Ytbpcbdlmkoajdaa
open Go Go.RowKit
set_option maxRecDepth 100000

/-- What is known at an operation: a slot is as it was ahead of the region, or what another operation has given. -/
def FactsOf (a0 : Act) (all : List (Value → World → Prop)) (a : Act) (w : World) : List (Nat × Option Nat) → Prop
  | [] => True
  | (t, none) :: r => a.tmps[t]? = a0.tmps[t]? ∧ FactsOf a0 all a w r
  | (t, some j) :: r => (∃ v, (all.getD j fun _ _ => True) v w ∧ a.tmps[t]? = some v) ∧ FactsOf a0 all a w r
/-- An operation gives what is said of it, in every world of the class, and what was said of others stays. -/
def OneOf (P : Program) (ops : Array Oper) (a0 : Act) (R : World → Prop) (St : World → World → Prop) (Q : Exit → Act → World → Prop) (all : List (Value → World → Prop)) (o : Oper) (f : List (Nat × Option Nat)) (V : Value → World → Prop) : Prop :=
  (∀ v w w', R w → St w w' → V v w → V v w') ∧
  ∀ a w K, R w → FactsOf a0 all a w f → (∀ v w', R w' → St w w' → V v w' → K (a.put o.dst v) w') →
    if Region.wanted o (yielded ops a.tmps) = true then o.wp P a w K Q else K (a.put o.dst undef) w
def AllOf (P : Program) (ops : Array Oper) (a0 : Act) (R : World → Prop) (St : World → World → Prop) (Q : Exit → Act → World → Prop) (all : List (Value → World → Prop)) : List Oper → List (List (Nat × Option Nat)) → List (Value → World → Prop) → Prop
  | o :: os, f :: fs, V :: Vs => OneOf P ops a0 R St Q all o f V ∧ AllOf P ops a0 R St Q all os fs Vs
  | [], [], [] => True
  | _, _, _ => False
/-- The frame behind the region: each slot as it was, or what its operation gave. -/
def FinOf (a0 : Act) (all : List (Value → World → Prop)) (w : World) : Nat → List (Option Nat) → (List Value → Prop) → Prop
  | _, [], k => k []
  | t, none :: r, k => FinOf a0 all w (t + 1) r fun vs => k (a0.tmps.getD t undef :: vs)
  | t, some j :: r, k => ∀ v, (all.getD j fun _ _ => True) v w → FinOf a0 all w (t + 1) r fun vs => k (v :: vs)
def dstAt (ops : Array Oper) (i : Nat) : Option Nat := (ops[i]?).bind (·.dst)
/-- Operation j binds upon operation i, through others or at once. -/
def behindB (md : Region.Mode) (ops : Array Oper) : Nat → Nat → Nat → Bool
  | 0, _, _ => false
  | n + 1, j, i => match ops[j]? with
    | none => false
    | some o => o.after.any fun e => Region.binds md e && (e.on == i || behindB md ops n e.on i)
def tableB (md : Region.Mode) (ops : Array Oper) (n : Nat) (tbl : List (List (Nat × Option Nat))) : Bool :=
  (List.range ops.size).all fun i => match ops[i]? with
    | none => false
    | some o =>
      (match o.dst with | none => true | some d => decide (d < n) && (List.range ops.size).all fun j => j == i || !(dstAt ops j == some d)) &&
      o.after.all (fun e => !Region.binds md e || decide (e.on < i)) &&
      (tbl.getD i []).all fun p => match p.2 with
        | none => (List.range ops.size).all fun j => !(dstAt ops j == some p.1) || behindB md ops ops.size j i
        | some j => dstAt ops j == some p.1 && o.after.toList.any fun e => Region.binds md e && e.on == j
def srcB (ops : Array Oper) (n : Nat) (src : List (Option Nat)) : Bool :=
  decide (src.length = n) && (List.range n).all fun t => match src.getD t none with
    | none => (List.range ops.size).all fun j => !(dstAt ops j == some t)
    | some j => dstAt ops j == some t && decide (j < ops.size)

section
variable {P : Program} {ops : Array Oper} {a0 : Act} {R : World → Prop} {St : World → World → Prop} {Q : Exit → Act → World → Prop} {all : List (Value → World → Prop)} {md : Region.Mode}

/-- What holds on the way: of each operation that has come up, what it gave; all else is as it was. -/
structure OnWay (md : Region.Mode) (ops : Array Oper) (a0 : Act) (R : World → Prop) (all : List (Value → World → Prop)) (listed : Array Bool) (a : Act) (w : World) : Prop where
  world : R w
  defers : a.defers = a0.defers
  size : a.tmps.size = a0.tmps.size
  done : ∀ i d, dstAt ops i = some d → listed.getD i false = true → ∃ v, a.tmps[d]? = some v ∧ (all.getD i fun _ _ => True) v w
  rest : ∀ t, (∀ i, listed.getD i false = true → dstAt ops i ≠ some t) → a.tmps[t]? = a0.tmps[t]?
  closed : ∀ j o, ops[j]? = some o → listed.getD j false = true → ∀ e ∈ o.after, Region.binds md e = true → listed.getD e.on false = true
theorem behind_listed {listed : Array Bool} (hc : ∀ j o, ops[j]? = some o → listed.getD j false = true → ∀ e ∈ o.after, Region.binds md e = true → listed.getD e.on false = true) {i : Nat} :
    ∀ (n j : Nat), behindB md ops n j i = true → listed.getD j false = true → listed.getD i false = true
  | 0, _, h, _ => by simp [behindB] at h
  | n + 1, j, h, hl => by
    unfold behindB at h
    split at h
    · simp at h
    · rename_i o ho
      rw [Array.any_eq_true'] at h
      obtain ⟨e, he, h⟩ := h
      simp only [Bool.and_eq_true, Bool.or_eq_true, beq_iff_eq] at h
      obtain ⟨hb, h⟩ := h
      have hle := hc j o ho hl e he hb
      rcases h with rfl | h
      · exact hle
      · exact behind_listed hc n e.on h hle

theorem countP_less {p q : Nat → Bool} (h : ∀ x, q x = true → p x = true) : ∀ {l : List Nat} {i : Nat}, i ∈ l → p i = true → q i = false → l.countP q < l.countP p
  | [], _, hi, _, _ => by cases hi
  | x :: l, i, hi, hp, hq => by
    have hle : l.countP q ≤ l.countP p := List.countP_mono_left fun y _ hy => h y hy
    rw [List.countP_cons, List.countP_cons]
    rcases List.mem_cons.1 hi with rfl | hi
    · rw [hp, hq]
      simp
      omega
    · have := countP_less h hi hp hq
      by_cases hqx : q x = true
      · rw [hqx, h x hqx]
        omega
      · rw [if_neg hqx]
        omega
theorem allOf_at : ∀ {os : List Oper} {fs : List (List (Nat × Option Nat))} {Vs : List (Value → World → Prop)}, AllOf P ops a0 R St Q all os fs Vs → ∀ {i : Nat} {o : Oper}, os[i]? = some o →
    OneOf P ops a0 R St Q all o (fs.getD i []) (Vs.getD i fun _ _ => True)
  | o :: os, f :: fs, V :: Vs, h, 0, o', ho => by
    simp only [List.getElem?_cons_zero, Option.some.injEq] at ho
    subst ho
    exact h.1
  | o :: os, f :: fs, V :: Vs, h, i + 1, o', ho => by
    simp only [List.getElem?_cons_succ] at ho
    have := allOf_at h.2 ho
    simpa using this
  | [], _, _, _, _, _, ho => by simp at ho
theorem ready_spec {listed : Array Bool} {i : Nat} (h : i ∈ Region.ready md ops listed) : ∃ o, ops[i]? = some o ∧ i < ops.size ∧ listed.getD i true = false ∧ ∀ e ∈ o.after, Region.binds md e = true → listed.getD e.on false = true := by
  unfold Region.ready at h
  rw [List.mem_filter, List.mem_range, Bool.and_eq_true] at h
  obtain ⟨hi, h1, h2⟩ := h
  obtain ⟨o, ho⟩ : ∃ o, ops[i]? = some o := ⟨ops[i], Array.getElem?_eq_getElem hi⟩
  refine ⟨o, ho, hi, by simpa using h1, fun e he hb => ?_⟩
  rw [ho] at h2
  simp only [Option.map_some, Option.getD_some, Array.all_eq_true_iff_forall_mem, Bool.or_eq_true, Bool.not_eq_true'] at h2
  rcases h2 e he with h | h
  · rw [hb] at h; cases h
  · exact h
theorem ready_of {listed : Array Bool} {i : Nat} {o : Oper} (ho : ops[i]? = some o) (hl : listed.getD i true = false) (h : ∀ e ∈ o.after, Region.binds md e = true → listed.getD e.on false = true) : i ∈ Region.ready md ops listed := by
  unfold Region.ready
  have hi : i < ops.size := (Array.getElem?_eq_some_iff.1 ho).1
  rw [List.mem_filter, List.mem_range, Bool.and_eq_true]
  refine ⟨hi, by simpa using hl, ?_⟩
  rw [ho]
  simp only [Option.map_some, Option.getD_some, Array.all_eq_true_iff_forall_mem, Bool.or_eq_true, Bool.not_eq_true']
  intro e he
  by_cases hb : Region.binds md e = true
  · exact .inr (h e he hb)
  · exact .inl (by simpa using hb)
theorem getD_two {listed : Array Bool} {i : Nat} (h : i < listed.size) : listed.getD i true = listed.getD i false := by
  rw [Array.getD_eq_getD_getElem?, Array.getD_eq_getD_getElem?, Array.getElem?_eq_getElem h]
  rfl
theorem getD_set (listed : Array Bool) (i j : Nat) (h : i < listed.size) (d : Bool) : (listed.setIfInBounds i true).getD j d = if i = j then true else listed.getD j d := by
  rw [Array.getD_eq_getD_getElem?, Array.getElem?_setIfInBounds]
  by_cases e : i = j
  · subst e
    rw [if_pos rfl, if_pos rfl, if_pos h]
    rfl
  · rw [if_neg e, if_neg e, ← Array.getD_eq_getD_getElem?]
structure Table (md : Region.Mode) (ops : Array Oper) (n : Nat) (tbl : List (List (Nat × Option Nat))) (i : Nat) (o : Oper) : Prop where
  lt : ∀ d, o.dst = some d → d < n
  apart : ∀ d, o.dst = some d → ∀ j, j ≠ i → dstAt ops j ≠ some d
  after : ∀ e ∈ o.after, Region.binds md e = true → e.on < i
  free : ∀ t, (t, none) ∈ tbl.getD i [] → ∀ j, dstAt ops j = some t → behindB md ops ops.size j i = true
  given : ∀ t j, (t, some j) ∈ tbl.getD i [] → dstAt ops j = some t ∧ ∃ e ∈ o.after, Region.binds md e = true ∧ e.on = j
theorem dstAt_none {j : Nat} (h : ¬ j < ops.size) : dstAt ops j = none := by
  rw [dstAt, Array.getElem?_eq_none (by omega)]
  rfl
theorem table_of {n : Nat} {tbl : List (List (Nat × Option Nat))} (h : tableB md ops n tbl = true) {i : Nat} {o : Oper} (ho : ops[i]? = some o) : Table md ops n tbl i o := by
  have hi : i < ops.size := (Array.getElem?_eq_some_iff.1 ho).1
  have h := List.all_eq_true.1 h i (List.mem_range.2 hi)
  rw [ho] at h
  simp only [Bool.and_eq_true] at h
  obtain ⟨⟨h1, h2⟩, h3⟩ := h
  refine ⟨?_, ?_, ?_, ?_, ?_⟩
  · intro d hd
    rw [hd] at h1
    simp only [Bool.and_eq_true, decide_eq_true_eq] at h1
    exact h1.1
  · intro d hd j hj
    rw [hd] at h1
    simp only [Bool.and_eq_true, decide_eq_true_eq] at h1
    by_cases hjs : j < ops.size
    · have := List.all_eq_true.1 h1.2 j (List.mem_range.2 hjs)
      simp only [Bool.or_eq_true, beq_iff_eq, Bool.not_eq_true', beq_eq_false_iff_ne] at this
      rcases this with h | h
      · exact absurd h hj
      · exact h
    · rw [dstAt_none hjs]; simp
  · intro e he hb
    rw [Array.all_eq_true_iff_forall_mem] at h2
    have := h2 e he
    simp only [hb, Bool.not_true, Bool.false_or, decide_eq_true_eq] at this
    exact this
  · intro t ht j hj
    have h4 := List.all_eq_true.1 h3 (t, none) ht
    have hjs : j < ops.size := by
      false_or_by_contra
      rename_i hn
      rw [dstAt_none hn] at hj
      cases hj
    have h5 := List.all_eq_true.1 h4 j (List.mem_range.2 hjs)
    rw [hj] at h5
    simpa using h5
  · intro t j ht
    have := List.all_eq_true.1 h3 _ ht
    simp only [Bool.and_eq_true, beq_iff_eq, List.any_eq_true] at this
    obtain ⟨h1, e, he, hb, hj⟩ := this
    exact ⟨h1, e, by simpa using he, hb, hj⟩
theorem facts_of {listed : Array Bool} {a : Act} {w : World} (h : OnWay md ops a0 R all listed a w) : ∀ (f : List (Nat × Option Nat)), (∀ t, (t, none) ∈ f → ∀ j, listed.getD j false = true → dstAt ops j ≠ some t) → (∀ t j, (t, some j) ∈ f → dstAt ops j = some t ∧ listed.getD j false = true) → FactsOf a0 all a w f
  | [], _, _ => trivial
  | (t, none) :: r, h1, h2 => ⟨h.rest t fun i hi => h1 t List.mem_cons_self i hi, facts_of h r (fun t ht => h1 t (List.mem_cons_of_mem _ ht)) fun t j ht => h2 t j (List.mem_cons_of_mem _ ht)⟩
  | (t, some j) :: r, h1, h2 => ⟨by
      obtain ⟨v, hv, hV⟩ := h.done j t (h2 t j List.mem_cons_self).1 (h2 t j List.mem_cons_self).2
      exact ⟨v, hV, hv⟩, facts_of h r (fun t ht => h1 t (List.mem_cons_of_mem _ ht)) fun t j ht => h2 t j (List.mem_cons_of_mem _ ht)⟩

theorem flat_any {tbl : List (List (Nat × Option Nat))} (ht : tableB md ops a0.tmps.size tbl = true) (hall : AllOf P ops a0 R St Q all ops.toList tbl all)
    (hfin : ∀ a w, (∀ i, i < ops.size → ∀ d, dstAt ops i = some d → ∃ v, a.tmps[d]? = some v ∧ (all.getD i fun _ _ => True) v w) → (∀ t, (∀ i, dstAt ops i ≠ some t) → a.tmps[t]? = a0.tmps[t]?) → R w → a.defers = a0.defers → a.tmps.size = a0.tmps.size → Q .normal a w) :
    ∀ (fuel : Nat) (listed : Array Bool) (a : Act) (w : World), listed.size = ops.size → (List.range ops.size).countP (fun i => !listed.getD i true) ≤ fuel → OnWay md ops a0 R all listed a w → wpAny P md ops Q fuel listed a w := by
  have fin : ∀ (listed : Array Bool) (a : Act) (w : World), listed.size = ops.size → Region.ready md ops listed = [] → OnWay md ops a0 R all listed a w → Q .normal a w := by
    intro listed a w hsz hr hw
    have hl : ∀ i, i < ops.size → listed.getD i false = true := by
      intro i
      induction i using Nat.strongRecOn with
      | ind i ih =>
        intro hi
        cases hc : listed.getD i false with
        | true => rfl
        | false =>
          have ho := Array.getElem?_eq_getElem hi
          have ht := table_of ht ho
          have hm : i ∈ Region.ready md ops listed := ready_of ho (by rw [getD_two (by omega)]; exact hc) fun e he hb => by
            have := ht.after e he hb
            exact ih e.on this (by omega)
          rw [hr] at hm
          cases hm
    refine hfin a w (fun i hi d hd => hw.done i d hd (hl i hi)) (fun t h => hw.rest t fun i _ => h i) hw.world hw.defers hw.size
  intro fuel
  induction fuel with
  | zero =>
    intro listed a w hsz hc hw
    have hr : Region.ready md ops listed = [] := by
      cases e : Region.ready md ops listed with
      | nil => rfl
      | cons i r =>
        have hi : i ∈ Region.ready md ops listed := by rw [e]; exact List.mem_cons_self
        obtain ⟨o, ho, hlt, hl, _⟩ := ready_spec hi
        have := List.countP_pos_iff (p := fun i => !listed.getD i true) (l := List.range ops.size) |>.2 ⟨i, List.mem_range.2 hlt, by simp [hl]⟩
        omega
    exact ⟨hr, fin listed a w hsz hr hw⟩
  | succ fuel ih =>
    intro listed a w hsz hc hw
    refine ⟨fun hr => fin listed a w hsz hr hw, fun i hi => ?_⟩
    obtain ⟨o, ho, hlt, hl, haft⟩ := ready_spec hi
    have ht := table_of ht ho
    have ho' : ops.toList[i]? = some o := by rw [Array.getElem?_toList]; exact ho
    obtain ⟨hkeep, hone⟩ := allOf_at hall ho'
    have hlf : listed.getD i false = false := by rw [← getD_two (by omega)]; exact hl
    have hd : dstAt ops i = o.dst := by rw [dstAt, ho]; rfl
    have hstab : ∀ j v w w', R w → St w w' → (all.getD j fun _ _ => True) v w → (all.getD j fun _ _ => True) v w' := by
      intro j v w w' hR hS hv
      by_cases hj : j < ops.size
      · have hj' : ops.toList[j]? = some ops[j] := by rw [Array.getElem?_toList]; exact Array.getElem?_eq_getElem hj
        exact (allOf_at hall hj').1 v w w' hR hS hv
      · have : all.getD j (fun _ _ => True) = fun _ _ => True := by
          have hlen : ∀ {os : List Oper} {fs : List (List (Nat × Option Nat))} {Vs : List (Value → World → Prop)}, AllOf P ops a0 R St Q all os fs Vs → Vs.length = os.length := by
            intro os
            induction os with
            | nil =>
              intro fs Vs h
              cases fs <;> cases Vs <;> first | rfl | exact h.elim
            | cons o os ih =>
              intro fs Vs h
              cases fs <;> cases Vs <;> first | exact h.elim | (simp only [List.length_cons]; rw [ih h.2])
          have := hlen hall
          rw [List.getD_eq_getElem?_getD, List.getElem?_eq_none (by rw [this, Array.length_toList]; omega)]
          rfl
        rw [this]
        trivial
    have hstep := hone a w (wpAny P md ops Q fuel (listed.setIfInBounds i true)) hw.world
      (facts_of hw _ (fun t h j hj hd' => by
          have := behind_listed hw.closed _ _ (ht.free t h j hd') hj
          rw [hlf] at this
          cases this) fun t j h => by
        obtain ⟨h1, e, he, hb, rfl⟩ := ht.given t j h
        exact ⟨h1, haft e he hb⟩) (fun v w' hR' hS hV => by
        refine ih _ _ _ (by rw [Array.size_setIfInBounds]; exact hsz) ?_ ⟨hR', ?_, ?_, ?_, ?_, ?_⟩
        · have := countP_less (p := fun i => !listed.getD i true) (q := fun j => !(listed.setIfInBounds i true).getD j true) (fun x hx => by
            rw [getD_set _ _ _ (by omega)] at hx
            by_cases e : i = x
            · simp [e] at hx
            · rwa [if_neg e] at hx) (List.mem_range.2 hlt) (by simp [hl]) (by rw [getD_set _ _ _ (by omega), if_pos rfl]; rfl)
          omega
        · rw [← hw.defers]; unfold Act.put; split <;> rfl
        · rw [← hw.size]; unfold Act.put; split <;> simp
        · intro j d hj hlj
          rw [getD_set _ _ _ (by omega)] at hlj
          by_cases e : i = j
          · subst e
            rw [hd] at hj
            refine ⟨v, ?_, hV⟩
            rw [hj]
            show (a.tmps.setIfInBounds d v)[d]? = some v
            have := ht.lt d hj
            rw [Array.getElem?_setIfInBounds_self_of_lt (by rw [hw.size]; exact this)]
          · rw [if_neg e] at hlj
            obtain ⟨u, hu, hVu⟩ := hw.done j d hj hlj
            refine ⟨u, ?_, hstab j u w w' hw.world hS hVu⟩
            rw [← hu]
            unfold Act.put
            split
            · rename_i d' hd'
              have := ht.apart d' hd' j (fun h => e h.symm)
              rw [Array.getElem?_setIfInBounds_ne (fun h => this (by rw [hj, h]))]
            · rfl
        · intro t hun
          have hit : o.dst ≠ some t := by
            rw [← hd]
            exact hun i (by rw [getD_set _ _ _ (by omega), if_pos rfl])
          rw [← hw.rest t (fun j hj => hun j (by
            rw [getD_set _ _ _ (by omega)]
            split
            · rfl
            · exact hj))]
          unfold Act.put
          split
          · rename_i d' hd'
            rw [Array.getElem?_setIfInBounds_ne (fun h => hit (by rw [hd', h]))]
          · rfl
        · intro j o' ho' hlj e he hb
          rw [getD_set _ _ _ (by omega)]
          split
          · rfl
          · rw [getD_set _ _ _ (by omega)] at hlj
            by_cases e2 : i = j
            · subst e2
              rw [ho] at ho'
              cases ho'
              exact haft e he hb
            · rw [if_neg e2] at hlj
              exact hw.closed j o' ho' hlj e he hb)
    unfold wpOp
    rw [ho]
    simp only
    split
    · rename_i hwd
      rw [if_pos hwd] at hstep
      exact .inl hstep
    · rename_i hwd
      rw [if_neg hwd] at hstep
      exact hstep

theorem fin_of {a : Act} {w : World} (hd : ∀ i, i < ops.size → ∀ d, dstAt ops i = some d → ∃ v, a.tmps[d]? = some v ∧ (all.getD i fun _ _ => True) v w) (hr : ∀ t, (∀ i, dstAt ops i ≠ some t) → a.tmps[t]? = a0.tmps[t]?) :
    ∀ (r : List (Option Nat)) (t : Nat) (k : List Value → Prop), (∀ s, s < r.length → match r.getD s none with | none => ∀ j, dstAt ops j ≠ some (t + s) | some j => dstAt ops j = some (t + s) ∧ j < ops.size) →
      FinOf a0 all w t r k → k ((List.range r.length).map fun s => a.tmps.getD (t + s) undef)
  | [], t, k, _, h => h
  | none :: r, t, k, hs, h => by
    have h0 : ∀ j, dstAt ops j ≠ some (t + 0) := hs 0 (by simp)
    have e : a.tmps.getD t undef = a0.tmps.getD t undef := by
      rw [Array.getD_eq_getD_getElem?, Array.getD_eq_getD_getElem?, hr t h0]
    have := fin_of hd hr r (t + 1) _ (fun s hlt => by
      have := hs (s + 1) (by simp; omega)
      simpa [Nat.add_assoc, Nat.add_comm 1 s] using this) h
    rw [List.length_cons, List.range_succ_eq_map, List.map_cons, List.map_map, Nat.add_zero, e]
    simpa [Function.comp_def, Nat.add_assoc, Nat.add_comm 1] using this
  | some j :: r, t, k, hs, h => by
    have h0 : dstAt ops j = some (t + 0) ∧ j < ops.size := hs 0 (by simp)
    obtain ⟨v, hv, hV⟩ := hd j h0.2 t h0.1
    have e : a.tmps.getD t undef = v := by rw [Array.getD_eq_getD_getElem?, hv]; rfl
    have := fin_of hd hr r (t + 1) _ (fun s hlt => by
      have := hs (s + 1) (by simp; omega)
      simpa [Nat.add_assoc, Nat.add_comm 1 s] using this) (h v hV)
    rw [List.length_cons, List.range_succ_eq_map, List.map_cons, List.map_map, Nat.add_zero, e]
    simpa [Function.comp_def, Nat.add_assoc, Nat.add_comm 1] using this

/-- The law: one goal for each operation, one for what is behind the region. -/
theorem wp_region_flat {id : Nat} {w0 : World} (hm : P.follows .mixedOrders = true) (R : World → Prop) (St : World → World → Prop) (all : List (Value → World → Prop)) (tbl : List (List (Nat × Option Nat))) (src : List (Option Nat))
    (ht : tableB .any ops a0.tmps.size tbl = true) (hsrc : srcB ops a0.tmps.size src = true) (hR : R w0.drew) (hall : AllOf P ops a0 R St Q all ops.toList tbl all)
    (hfin : ∀ w, R w → FinOf a0 all w 0 src fun vs => Q .normal ⟨vs.toArray, a0.defers⟩ w) : (Code.region id ops true).wp P Q a0 w0 := by
  simp only [srcB, Bool.and_eq_true, decide_eq_true_eq] at hsrc
  obtain ⟨hlen, hsrc⟩ := hsrc
  refine wp_region_any hm (flat_any ht hall ?_ _ _ _ _ (by simp) ?_ ⟨hR, rfl, rfl, ?_, fun _ _ => rfl, ?_⟩)
  · intro a w hd hr hRw hdef hsz
    have := fin_of (a0 := a0) (all := all) (a := a) (w := w) hd hr src 0 _ (fun s hs => by
      have := List.all_eq_true.1 hsrc s (List.mem_range.2 (by omega))
      rw [Nat.zero_add]
      split
      · rename_i e
        rw [e] at this
        intro j
        by_cases hj : j < ops.size
        · have := List.all_eq_true.1 this j (List.mem_range.2 hj)
          simpa using this
        · rw [dstAt_none hj]; simp
      · rename_i e
        rw [e] at this
        simpa using this) (hfin w hRw)
    have e : ((List.range src.length).map fun s => a.tmps.getD (0 + s) undef).toArray = a.tmps := by
      apply Array.ext
      · simp [hlen, hsz]
      · intro i h1 h2
        simp [h2]
    rw [e, ← hdef] at this
    exact this
  · refine Nat.le_trans (List.countP_le_length ..) (by simp)
  · intro i d _ h
    rw [Array.getD_eq_getD_getElem?] at h
    simp only [Array.getElem?_replicate] at h
    split at h <;> simp at h
  · intro j o _ h
    rw [Array.getD_eq_getD_getElem?] at h
    simp only [Array.getElem?_replicate] at h
    split at h <;> simp at h

/-- The same, said operation by operation: what is known of those ahead is laid up on the way. -/
def ExOf (P : Program) (ops : Array Oper) (a0 : Act) (R : World → Prop) (St : World → World → Prop) (Q : Exit → Act → World → Prop) (fin : List (Value → World → Prop) → Prop) : List Oper → List (List (Nat × Option Nat)) → List (Value → World → Prop) → Prop
  | o :: os, f :: fs, pre => ∃ V, OneOf P ops a0 R St Q pre o f V ∧ ExOf P ops a0 R St Q fin os fs (pre ++ [V])
  | [], [], pre => fin pre
  | _, _, _ => False
theorem facts_less {pre Vs : List (Value → World → Prop)} {a : Act} {w : World} : ∀ {f : List (Nat × Option Nat)}, (∀ t j, (t, some j) ∈ f → j < pre.length) → FactsOf a0 (pre ++ Vs) a w f → FactsOf a0 pre a w f
  | [], _, _ => trivial
  | (t, none) :: r, hj, h => ⟨h.1, facts_less (fun t j hm => hj t j (List.mem_cons_of_mem _ hm)) h.2⟩
  | (t, some j) :: r, hj, h => by
    refine ⟨?_, facts_less (fun t j hm => hj t j (List.mem_cons_of_mem _ hm)) h.2⟩
    obtain ⟨v, h3, h1⟩ := h.1
    refine ⟨v, ?_, h1⟩
    have hlt := hj t j List.mem_cons_self
    rwa [List.getD_eq_getElem?_getD, List.getElem?_append_left hlt, ← List.getD_eq_getElem?_getD] at h3
theorem all_of_ex {fin : List (Value → World → Prop) → Prop} : ∀ {os : List Oper} {fs : List (List (Nat × Option Nat))} {pre : List (Value → World → Prop)}, (∀ i t j, (t, some j) ∈ fs.getD i [] → j < pre.length + i) →
    ExOf P ops a0 R St Q fin os fs pre → ∃ Vs, AllOf P ops a0 R St Q (pre ++ Vs) os fs Vs ∧ fin (pre ++ Vs)
  | [], [], pre, _, h => ⟨[], trivial, by rw [List.append_nil]; exact h⟩
  | [], _ :: _, _, _, h => h.elim
  | _ :: _, [], _, _, h => h.elim
  | o :: os, f :: fs, pre, hj, ⟨V, h1, h2⟩ => by
    obtain ⟨Vs, h3, h4⟩ := all_of_ex (pre := pre ++ [V]) (fun i t j hm => by
      have := hj (i + 1) t j (by simpa using hm)
      simp
      omega) h2
    rw [List.append_assoc, List.singleton_append] at h3 h4
    exact ⟨V :: Vs, ⟨⟨h1.1, fun a w K hR hF hK => h1.2 a w K hR (facts_less (fun t j hm => by have := hj 0 t j (by simpa using hm); simpa using this) hF) hK⟩, h3⟩, h4⟩
theorem ex_length {fin : List (Value → World → Prop) → Prop} : ∀ {os : List Oper} {fs : List (List (Nat × Option Nat))} {pre : List (Value → World → Prop)}, ExOf P ops a0 R St Q fin os fs pre → fs.length = os.length
  | [], [], _, _ => rfl
  | [], _ :: _, _, h => h.elim
  | _ :: _, [], _, h => h.elim
  | _ :: _, _ :: _, _, ⟨_, _, h⟩ => by rw [List.length_cons, List.length_cons, ex_length h]
theorem wp_region_ex {id : Nat} {w0 : World} (hm : P.follows .mixedOrders = true) (R : World → Prop) (St : World → World → Prop) (tbl : List (List (Nat × Option Nat))) (src : List (Option Nat))
    (ht : tableB .any ops a0.tmps.size tbl = true) (hsrc : srcB ops a0.tmps.size src = true) (hR : R w0.drew)
    (h : ExOf P ops a0 R St Q (fun all => ∀ w, R w → FinOf a0 all w 0 src fun vs => Q .normal ⟨vs.toArray, a0.defers⟩ w) ops.toList tbl []) : (Code.region id ops true).wp P Q a0 w0 := by
  have hlen := ex_length h
  obtain ⟨Vs, h1, h2⟩ := all_of_ex (fun i t j hm => by
    have hi : i < ops.size := by
      false_or_by_contra
      rw [List.getD_eq_getElem?_getD, List.getElem?_eq_none (by rw [hlen, Array.length_toList]; omega)] at hm
      cases hm
    have hT := table_of ht (Array.getElem?_eq_getElem hi)
    obtain ⟨_, e, he, hb, rfl⟩ := hT.given t j hm
    have := hT.after e he hb
    simpa using this) h
  rw [List.nil_append] at h1 h2
  exact wp_region_flat hm R St Vs tbl src ht hsrc hR h1 h2

/-- An operation that gives one value, in every world of the class, and leaves the world. -/
theorem flat_pure {o : Oper} {f : List (Nat × Option Nat)} (c : Value) (hSt : ∀ w, R w → St w w)
    (h : ∀ a w, R w → FactsOf a0 all a w f → Region.wanted o (yielded ops a.tmps) = true ∧ (execOp a.eval o).run P w = .ok (.value c) w) : OneOf P ops a0 R St Q all o f fun v _ => v = c := by
  refine ⟨fun v w w' _ _ e => e, fun a w K hR hF hK => ?_⟩
  obtain ⟨h1, h2⟩ := h a w hR hF
  rw [if_pos h1]
  unfold Oper.wp
  rw [h2]
  exact hK c w hR (hSt w hR) rfl
/-- An operation that makes a block. -/
theorem flat_make {o : Oper} {f : List (Nat × Option Nat)} (k : Nat) (cs : Array Value) (T : TypeId) (hS : ∀ w w' g, R w → St w w' → Sits w g T cs → Sits w' g T cs) (hR' : ∀ w b, R w → R (w.alloc b) ∧ St w (w.alloc b))
    (h : ∀ a w, R w → FactsOf a0 all a w f → Region.wanted o (yielded ops a.tmps) = true ∧ (execOp a.eval o).run P w = .ok (.value (.slice (some ⟨w.heap.size, 0, none⟩) k k)) (w.alloc (.cells cs T))) :
    OneOf P ops a0 R St Q all o f fun v w => ∃ g, v = .slice (some ⟨g, 0, none⟩) k k ∧ Sits w g T cs := by
  refine ⟨fun v w w' hR hSt ⟨g, e, hs⟩ => ⟨g, e, hS w w' g hR hSt hs⟩, fun a w K hR hF hK => ?_⟩
  obtain ⟨h1, h2⟩ := h a w hR hF
  rw [if_pos h1]
  unfold Oper.wp
  rw [h2]
  exact hK _ _ (hR' w _ hR).1 (hR' w _ hR).2 ⟨_, rfl, Sits.fresh w T cs⟩
/-- An operation that gives a value of which V holds. -/
theorem flat_val {o : Oper} {f : List (Nat × Option Nat)} (V : Value → World → Prop) (hV : ∀ v w w', R w → St w w' → V v w → V v w')
    (h : ∀ a w, R w → FactsOf a0 all a w f → Region.wanted o (yielded ops a.tmps) = true ∧ ∃ r w', (execOp a.eval o).run P w = .ok (.value r) w' ∧ R w' ∧ St w w' ∧ V r w') : OneOf P ops a0 R St Q all o f V := by
  refine ⟨hV, fun a w K hR hF hK => ?_⟩
  obtain ⟨h1, r, w', h2, h3, h4, h5⟩ := h a w hR hF
  rw [if_pos h1]
  unfold Oper.wp
  rw [h2]
  exact hK r w' h3 h4 h5
/-- append's run as an operation's. -/
theorem exec_append {o : Oper} {a : Act} {w w' : World} (s x : Operand) (t tx : TypeId) (ho : o.op = .call { callee := .builtin .append, args := #[s, x], argTypes := #[t, tx] }) (v xv r : Value) (hs : a.eval s = v) (hx : a.eval x = xv)
    (hr : (Builtin.append_ #[t, tx] o.type #[v, xv]).run P w = .ok r w') : (execOp a.eval o).run P w = .ok (.value r) w' := by
  unfold execOp
  simp only [ho, resolve, invoke, builtin, Sem.run_bind, Sem.run_pure, Result.andThen_ok, List.map_toArray, List.map_cons, List.map_nil, hs, hx, hr]
/-- A call that gives one value. -/
theorem flat_call {o : Oper} {f : List (Nat × Option Nat)} (c : Value)
    (h : ∀ a w, R w → FactsOf a0 all a w f → Region.wanted o (yielded ops a.tmps) = true ∧ ∃ g args, (execOp a.eval o).run P w = .ok (.enter g args) w ∧ Calls P g args w fun e w' => e = .returned c ∧ R w' ∧ St w w') : OneOf P ops a0 R St Q all o f fun v _ => v = c := by
  refine ⟨fun v w w' _ _ e => e, fun a w K hR hF hK => ?_⟩
  obtain ⟨h1, g, args, h2, h3⟩ := h a w hR hF
  rw [if_pos h1]
  unfold Oper.wp
  rw [h2]
  refine h3.mono ?_
  rintro e w' ⟨rfl, hR', hS'⟩
  exact hK c w' hR' hS' rfl

/-- A call that gives a value of which V holds. -/
theorem flat_callv {o : Oper} {f : List (Nat × Option Nat)} (V : Value → World → Prop) (hV : ∀ v w w', R w → St w w' → V v w → V v w')
    (h : ∀ a w, R w → FactsOf a0 all a w f → Region.wanted o (yielded ops a.tmps) = true ∧ ∃ g args, (execOp a.eval o).run P w = .ok (.enter g args) w ∧ Calls P g args w fun e w' => ∃ v, e = .returned v ∧ R w' ∧ St w w' ∧ V v w') : OneOf P ops a0 R St Q all o f V := by
  refine ⟨hV, fun a w K hR hF hK => ?_⟩
  obtain ⟨h1, g, args, h2, h3⟩ := h a w hR hF
  rw [if_pos h1]
  unfold Oper.wp
  rw [h2]
  refine h3.mono ?_
  rintro e w' ⟨v, rfl, hR', hS', hv⟩
  exact hK v w' hR' hS' hv

section
variable {fin : List (Value → World → Prop) → Prop} {pre : List (Value → World → Prop)} {o : Oper} {os : List Oper} {f : List (Nat × Option Nat)} {fs : List (List (Nat × Option Nat))}
theorem ex_pure {c : Value} (hSt : ∀ w, R w → St w w)
    (h : ∀ a w, R w → FactsOf a0 pre a w f → Region.wanted o (yielded ops a.tmps) = true ∧ (execOp a.eval o).run P w = .ok (.value c) w)
    (hr : ExOf P ops a0 R St Q fin os fs (pre ++ [fun v _ => v = c])) : ExOf P ops a0 R St Q fin (o :: os) (f :: fs) pre := ⟨_, flat_pure c hSt h, hr⟩
theorem ex_make {k : Nat} {cs : Array Value} {T : TypeId} (hS : ∀ w w' g, R w → St w w' → Sits w g T cs → Sits w' g T cs) (hR' : ∀ w b, R w → R (w.alloc b) ∧ St w (w.alloc b))
    (h : ∀ a w, R w → FactsOf a0 pre a w f → Region.wanted o (yielded ops a.tmps) = true ∧ (execOp a.eval o).run P w = .ok (.value (.slice (some ⟨w.heap.size, 0, none⟩) k k)) (w.alloc (.cells cs T)))
    (hr : ExOf P ops a0 R St Q fin os fs (pre ++ [fun v w => ∃ g, v = .slice (some ⟨g, 0, none⟩) k k ∧ Sits w g T cs])) : ExOf P ops a0 R St Q fin (o :: os) (f :: fs) pre := ⟨_, flat_make k cs T hS hR' h, hr⟩
theorem ex_val (V : Value → World → Prop) (hV : ∀ v w w', R w → St w w' → V v w → V v w')
    (h : ∀ a w, R w → FactsOf a0 pre a w f → Region.wanted o (yielded ops a.tmps) = true ∧ ∃ r w', (execOp a.eval o).run P w = .ok (.value r) w' ∧ R w' ∧ St w w' ∧ V r w')
    (hr : ExOf P ops a0 R St Q fin os fs (pre ++ [V])) : ExOf P ops a0 R St Q fin (o :: os) (f :: fs) pre := ⟨_, flat_val V hV h, hr⟩
theorem ex_callv (V : Value → World → Prop) (hV : ∀ v w w', R w → St w w' → V v w → V v w')
    (h : ∀ a w, R w → FactsOf a0 pre a w f → Region.wanted o (yielded ops a.tmps) = true ∧ ∃ F args, (execOp a.eval o).run P w = .ok (.enter F args) w ∧ Calls P F args w fun e w' => ∃ v, e = .returned v ∧ R w' ∧ St w w' ∧ V v w')
    (hr : ExOf P ops a0 R St Q fin os fs (pre ++ [V])) : ExOf P ops a0 R St Q fin (o :: os) (f :: fs) pre := ⟨_, flat_callv V hV h, hr⟩
theorem ex_callx (c : Value)
    (h : ∀ a w, R w → FactsOf a0 pre a w f → Region.wanted o (yielded ops a.tmps) = true ∧ ∃ F args, (execOp a.eval o).run P w = .ok (.enter F args) w ∧ Calls P F args w fun e w' => e = .returned c ∧ R w' ∧ St w w')
    (hr : ExOf P ops a0 R St Q fin os fs (pre ++ [fun v _ => v = c])) : ExOf P ops a0 R St Q fin (o :: os) (f :: fs) pre := ⟨_, flat_call c h, hr⟩
theorem ex_call {c : Value} {F : FuncId} {args : Array Value}
    (h : ∀ a w, R w → FactsOf a0 pre a w f → Region.wanted o (yielded ops a.tmps) = true ∧ (execOp a.eval o).run P w = .ok (.enter F args) w ∧ Calls P F args w fun e w' => e = .returned c ∧ R w' ∧ St w w')
    (hr : ExOf P ops a0 R St Q fin os fs (pre ++ [fun v _ => v = c])) : ExOf P ops a0 R St Q fin (o :: os) (f :: fs) pre :=
  ⟨_, flat_call c fun a w hR hF => ⟨(h a w hR hF).1, F, args, (h a w hR hF).2.1, (h a w hR hF).2.2⟩, hr⟩
end
end
end Go.Proofs.Ytbpcbdlmkoajdaa
