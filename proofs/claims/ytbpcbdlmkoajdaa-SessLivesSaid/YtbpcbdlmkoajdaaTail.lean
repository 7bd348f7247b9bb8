/- A region that draws its order, whose last operation is behind all others: what the others give, said once for whatever order, and then the last one. -/
import Derived.Test.YtbpcbdlmkoajdaaFlat
import Derived.Tactics
namespace Go.Proofs.Ytbpcbdlmkoajdaa
open Go Go.RowKit
set_option maxRecDepth 100000

section
variable {P : Program} {ops : Array Oper} {a0 : Act} {R : World → Prop} {St : World → World → Prop} {Q : Exit → Act → World → Prop} {all : List (Value → World → Prop)} {md : Region.Mode}
theorem flat_tail {tbl : List (List (Nat × Option Nat))} {z : Nat} {oz : Oper} (ht : tableB md ops a0.tmps.size tbl = true) (hz : ops[z]? = some oz) (hbe : ∀ j, j < ops.size → j ≠ z → behindB md ops ops.size z j = true)
    (hone : ∀ i o, ops[i]? = some o → i ≠ z → OneOf P ops a0 R St Q all o (tbl.getD i []) (all.getD i fun _ _ => True)) (hstab : ∀ (j : Nat) (v : Value) (w w' : World), R w → St w w' → (all.getD j fun _ _ => True) v w → (all.getD j fun _ _ => True) v w')
    (hfin : ∀ a w, (∀ i, i < ops.size → i ≠ z → ∀ d, dstAt ops i = some d → ∃ v, a.tmps[d]? = some v ∧ (all.getD i fun _ _ => True) v w) → (∀ t, (∀ i, i ≠ z → dstAt ops i ≠ some t) → a.tmps[t]? = a0.tmps[t]?) → R w → a.defers = a0.defers → a.tmps.size = a0.tmps.size → wpList P ops Q [oz] a w) :
    ∀ (fuel : Nat) (listed : Array Bool) (a : Act) (w : World), listed.size = ops.size → listed.getD z false = false → (List.range ops.size).countP (fun i => !listed.getD i true) ≤ fuel → OnWay md ops a0 R all listed a w → wpAny P md ops Q fuel listed a w := by
  have hzl : z < ops.size := (Array.getElem?_eq_some_iff.1 hz).1
  have full : ∀ (listed : Array Bool), listed.size = ops.size → Region.ready md ops listed = [] → ∀ i, i < ops.size → listed.getD i false = true := by
    intro listed hsz hr i
    induction i using Nat.strongRecOn with
    | ind i ih =>
      intro hi
      cases hc : listed.getD i false with
      | true => rfl
      | false =>
        have ho := Array.getElem?_eq_getElem hi
        have ht := table_of ht ho
        have hm : i ∈ Region.ready md ops listed := ready_of ho (by rw [getD_two (by omega)]; exact hc) fun e he hb => by
          have := ht.after e he hb
          exact ih e.on this (by omega)
        rw [hr] at hm
        cases hm
  have done : ∀ (fuel : Nat) (listed : Array Bool) (a : Act) (w : World), listed.size = ops.size → (∀ i, i < ops.size → listed.getD i false = true) → Q .normal a w → wpAny P md ops Q fuel listed a w := by
    intro fuel listed a w hsz hl hq
    have hr : Region.ready md ops listed = [] := by
      cases e : Region.ready md ops listed with
      | nil => rfl
      | cons i r =>
        have hi : i ∈ Region.ready md ops listed := by rw [e]; exact List.mem_cons_self
        obtain ⟨o, ho, hlt, hli, _⟩ := ready_spec hi
        rw [getD_two (by omega), hl i hlt] at hli
        cases hli
    cases fuel with
    | zero => exact ⟨hr, hq⟩
    | succ fuel =>
      refine ⟨fun _ => hq, fun i hi => ?_⟩
      rw [hr] at hi
      cases hi
  intro fuel
  induction fuel with
  | zero =>
    intro listed a w hsz hzf hc hw
    have := List.countP_pos_iff (p := fun i => !listed.getD i true) (l := List.range ops.size) |>.2 ⟨z, List.mem_range.2 hzl, by rw [getD_two (by omega), hzf]; rfl⟩
    omega
  | succ fuel ih =>
    intro listed a w hsz hzf hc hw
    refine ⟨fun hr => absurd (full listed hsz hr z hzl) (by rw [hzf]; simp), fun i hi => ?_⟩
    obtain ⟨o, ho, hlt, hl, haft⟩ := ready_spec hi
    by_cases hiz : i = z
    · subst hiz
      rw [hz] at ho
      cases ho
      have hall : ∀ j, j < ops.size → j ≠ i → listed.getD j false = true := fun j hj hji => by
        have hb := hbe j hj hji
        have hsz0 : ops.size ≠ 0 := by omega
        obtain ⟨m, hm⟩ := Nat.exists_eq_succ_of_ne_zero hsz0
        rw [hm] at hb
        unfold behindB at hb
        rw [hz] at hb
        simp only [Array.any_eq_true'] at hb
        obtain ⟨e, he, h⟩ := hb
        simp only [Bool.and_eq_true, Bool.or_eq_true, beq_iff_eq] at h
        obtain ⟨hbd, h⟩ := h
        have hle := haft e he hbd
        rcases h with rfl | h
        · exact hle
        · exact behind_listed hw.closed m e.on h hle
      have hlast := hfin a w (fun j hj hji d hd => hw.done j d hd (hall j hj hji)) (fun t h => hw.rest t fun j hj => h j (fun e => by rw [e, hzf] at hj; cases hj)) hw.world hw.defers hw.size
      have hset : ∀ j, j < ops.size → (listed.setIfInBounds i true).getD j false = true := fun j hj => by
        rw [getD_set _ _ _ (by omega)]
        split
        · rfl
        · rename_i hne
          exact hall j hj (fun e => hne e.symm)
      unfold wpOp
      rw [hz]
      simp only
      unfold wpList at hlast
      split
      · rename_i hwd
        rw [if_pos hwd] at hlast
        rcases hlast with h | h
        · exact .inl (Oper.wp_mono (fun a' w' h' => done _ _ _ _ (by rw [Array.size_setIfInBounds]; exact hsz) hset h') h)
        · exact .inr h
      · rename_i hwd
        rw [if_neg hwd] at hlast
        exact done _ _ _ _ (by rw [Array.size_setIfInBounds]; exact hsz) hset hlast
    have ht := table_of ht ho
    obtain ⟨hkeep, hone⟩ := hone i o ho hiz
    have hlf : listed.getD i false = false := by rw [← getD_two (by omega)]; exact hl
    have hd : dstAt ops i = o.dst := by rw [dstAt, ho]; rfl
    have hstep := hone a w (wpAny P md ops Q fuel (listed.setIfInBounds i true)) hw.world
      (facts_of hw _ (fun t h j hj hd' => by
          have := behind_listed hw.closed _ _ (ht.free t h j hd') hj
          rw [hlf] at this
          cases this) fun t j h => by
        obtain ⟨h1, e, he, hb, rfl⟩ := ht.given t j h
        exact ⟨h1, haft e he hb⟩) (fun v w' hR' hS hV => by
        refine ih _ _ _ (by rw [Array.size_setIfInBounds]; exact hsz) (by rw [getD_set _ _ _ (by omega), if_neg hiz]; exact hzf) ?_ ⟨hR', ?_, ?_, ?_, ?_, ?_⟩
        · have := countP_less (p := fun i => !listed.getD i true) (q := fun j => !(listed.setIfInBounds i true).getD j true) (fun x hx => by
            rw [getD_set _ _ _ (by omega)] at hx
            by_cases e : i = x
            · simp [e] at hx
            · rwa [if_neg e] at hx) (List.mem_range.2 hlt) (by simp [hl]) (by rw [getD_set _ _ _ (by omega), if_pos rfl]; rfl)
          omega
        · rw [← hw.defers]; unfold Act.put; split <;> rfl
        · rw [← hw.size]; unfold Act.put; split <;> simp
        · intro j d hj hlj
          rw [getD_set _ _ _ (by omega)] at hlj
          by_cases e : i = j
          · subst e
            rw [hd] at hj
            refine ⟨v, ?_, hV⟩
            rw [hj]
            show (a.tmps.setIfInBounds d v)[d]? = some v
            have := ht.lt d hj
            rw [Array.getElem?_setIfInBounds_self_of_lt (by rw [hw.size]; exact this)]
          · rw [if_neg e] at hlj
            obtain ⟨u, hu, hVu⟩ := hw.done j d hj hlj
            refine ⟨u, ?_, hstab j u w w' hw.world hS hVu⟩
            rw [← hu]
            unfold Act.put
            split
            · rename_i d' hd'
              have := ht.apart d' hd' j (fun h => e h.symm)
              rw [Array.getElem?_setIfInBounds_ne (fun h => this (by rw [hj, h]))]
            · rfl
        · intro t hun
          have hit : o.dst ≠ some t := by
            rw [← hd]
            exact hun i (by rw [getD_set _ _ _ (by omega), if_pos rfl])
          rw [← hw.rest t (fun j hj => hun j (by
            rw [getD_set _ _ _ (by omega)]
            split
            · rfl
            · exact hj))]
          unfold Act.put
          split
          · rename_i d' hd'
            rw [Array.getElem?_setIfInBounds_ne (fun h => hit (by rw [hd', h]))]
          · rfl
        · intro j o' ho' hlj e he hb
          rw [getD_set _ _ _ (by omega)]
          split
          · rfl
          · rw [getD_set _ _ _ (by omega)] at hlj
            by_cases e2 : i = j
            · subst e2
              rw [ho] at ho'
              cases ho'
              exact haft e he hb
            · rw [if_neg e2] at hlj
              exact hw.closed j o' ho' hlj e he hb)
    unfold wpOp
    rw [ho]
    simp only
    split
    · rename_i hwd
      rw [if_pos hwd] at hstep
      exact .inl hstep
    · rename_i hwd
      rw [if_neg hwd] at hstep
      exact hstep

theorem ex_skip {o : Oper} {f : List (Nat × Option Nat)} {os : List Oper} {fs : List (List (Nat × Option Nat))} {pre : List (Value → World → Prop)} {fin : List (Value → World → Prop) → Prop} (hSt : ∀ w, R w → St w w)
    (h : ∀ a w, R w → FactsOf a0 pre a w f → Region.wanted o (yielded ops a.tmps) = false)
    (hr : ExOf P ops a0 R St Q fin os fs (pre ++ [fun v _ => v = undef])) : ExOf P ops a0 R St Q fin (o :: os) (f :: fs) pre :=
  ⟨_, ⟨fun v w w' _ _ e => e, fun a w K hR hF hK => by
    rw [if_neg (by rw [h a w hR hF]; simp)]
    exact hK undef w hR (hSt w hR) rfl⟩, hr⟩
theorem fin_tail {a : Act} {w : World} {z : Nat} (hd : ∀ i, i < z → ∀ d, dstAt ops i = some d → ∃ v, a.tmps[d]? = some v ∧ (all.getD i fun _ _ => True) v w) (hr : ∀ t, (∀ i, i ≠ z → dstAt ops i ≠ some t) → a.tmps[t]? = a0.tmps[t]?) :
    ∀ (r : List (Option Nat)) (t : Nat) (k : List Value → Prop), (∀ s, s < r.length → match r.getD s none with | none => ∀ j, j ≠ z → dstAt ops j ≠ some (t + s) | some j => dstAt ops j = some (t + s) ∧ j < z) →
      FinOf a0 all w t r k → k ((List.range r.length).map fun s => a.tmps.getD (t + s) undef)
  | [], t, k, _, h => h
  | none :: r, t, k, hs, h => by
    have h0 : ∀ j, j ≠ z → dstAt ops j ≠ some (t + 0) := hs 0 (by simp)
    have e : a.tmps.getD t undef = a0.tmps.getD t undef := by
      rw [Array.getD_eq_getD_getElem?, Array.getD_eq_getD_getElem?, hr t h0]
    have := fin_tail hd hr r (t + 1) _ (fun s hlt => by
      have := hs (s + 1) (by simp; omega)
      simpa [Nat.add_assoc, Nat.add_comm 1 s] using this) h
    rw [List.length_cons, List.range_succ_eq_map, List.map_cons, List.map_map, Nat.add_zero, e]
    simpa [Function.comp_def, Nat.add_assoc, Nat.add_comm 1] using this
  | some j :: r, t, k, hs, h => by
    have h0 : dstAt ops j = some (t + 0) ∧ j < z := hs 0 (by simp)
    obtain ⟨v, hv, hV⟩ := hd j h0.2 t h0.1
    have e : a.tmps.getD t undef = v := by rw [Array.getD_eq_getD_getElem?, hv]; rfl
    have := fin_tail hd hr r (t + 1) _ (fun s hlt => by
      have := hs (s + 1) (by simp; omega)
      simpa [Nat.add_assoc, Nat.add_comm 1 s] using this) (h v hV)
    rw [List.length_cons, List.range_succ_eq_map, List.map_cons, List.map_map, Nat.add_zero, e]
    simpa [Function.comp_def, Nat.add_assoc, Nat.add_comm 1] using this


def lastB (md : Region.Mode) (ops : Array Oper) (z : Nat) : Bool := decide (z + 1 = ops.size) && (List.range z).all fun j => behindB md ops ops.size z j
def srcT (ops : Array Oper) (z n : Nat) (src : List (Option Nat)) : Bool :=
  decide (src.length = n) && (List.range n).all fun t => match src.getD t none with
    | none => (List.range z).all fun j => !(dstAt ops j == some t)
    | some j => dstAt ops j == some t && decide (j < z)
/-- A region that draws its order, whose last operation is behind all others: one goal for each of those, and the last one by itself. -/
theorem wp_region_tail {id : Nat} {w0 : World} (z : Nat) (hm : P.follows .mixedOrders = true) (R : World → Prop) (St : World → World → Prop) (tbl : List (List (Nat × Option Nat))) (src : List (Option Nat))
    (ht : tableB .any ops a0.tmps.size tbl = true) (hsrc : srcT ops z a0.tmps.size src = true) (hb : lastB .any ops z = true) (hR : R w0.drew)
    (h : ExOf P ops a0 R St Q (fun all => ∀ w, R w → FinOf a0 all w 0 src fun vs => wpList P ops Q (ops.toList.drop z) ⟨vs.toArray, a0.defers⟩ w) (ops.toList.take z) (tbl.take z) []) : (Code.region id ops true).wp P Q a0 w0 := by
  simp only [lastB, Bool.and_eq_true, decide_eq_true_eq] at hb
  obtain ⟨hz, hb⟩ := hb
  simp only [srcT, Bool.and_eq_true, decide_eq_true_eq] at hsrc
  obtain ⟨hlen, hsrc⟩ := hsrc
  have hexl := ex_length h
  obtain ⟨Vs, h1, h2⟩ := all_of_ex (fun i t j hm => by
    have hi : i < z := by
      false_or_by_contra
      rw [List.getD_eq_getElem?_getD, List.getElem?_eq_none (by rw [List.length_take]; omega)] at hm
      simp at hm
    have hio : i < ops.size := by omega
    have he : (tbl.take z).getD i [] = tbl.getD i [] := by
      rw [List.getD_eq_getElem?_getD, List.getD_eq_getElem?_getD, List.getElem?_take, if_pos hi]
    rw [he] at hm
    have := (table_of ht (Array.getElem?_eq_getElem hio)).given t j hm
    obtain ⟨_, e, hee, hbb, rfl⟩ := this
    have := (table_of ht (Array.getElem?_eq_getElem hio)).after e hee hbb
    simpa using this) h
  rw [List.nil_append] at h1 h2
  have hlenV : Vs.length = z := by
    have hl : ∀ {os : List Oper} {fs : List (List (Nat × Option Nat))} {Ws : List (Value → World → Prop)}, AllOf P ops a0 R St Q Vs os fs Ws → Ws.length = os.length := by
      intro os
      induction os with
      | nil =>
        intro fs Ws h
        cases fs <;> cases Ws <;> first | rfl | exact h.elim
      | cons o os ih =>
        intro fs Ws h
        cases fs <;> cases Ws <;> first | exact h.elim | (simp only [List.length_cons]; rw [ih h.2])
    have := hl h1
    rw [this, List.length_take, Array.length_toList]
    omega
  have hone : ∀ i o, ops[i]? = some o → i ≠ z → OneOf P ops a0 R St Q Vs o (tbl.getD i []) (Vs.getD i fun _ _ => True) := fun i o ho hi => by
    have hio := (Array.getElem?_eq_some_iff.1 ho).1
    have hiz : i < z := by omega
    have ho' : (ops.toList.take z)[i]? = some o := by rw [List.getElem?_take, if_pos hiz, Array.getElem?_toList]; exact ho
    have := allOf_at h1 ho'
    rwa [show (tbl.take z).getD i [] = tbl.getD i [] by rw [List.getD_eq_getElem?_getD, List.getD_eq_getElem?_getD, List.getElem?_take, if_pos hiz]] at this
  have hoz : ops[z]? = some ops[z] := Array.getElem?_eq_getElem (by omega)
  have hdrop : ops.toList.drop z = [ops[z]] := by
    rw [List.drop_eq_getElem_cons (by rw [Array.length_toList]; omega), List.drop_eq_nil_of_le (by rw [Array.length_toList]; omega)]
    simp
  rw [hdrop] at h2
  refine wp_region_any hm (flat_tail (z := z) (all := Vs) ht hoz (fun j hj hjz => List.all_eq_true.1 hb j (List.mem_range.2 (by omega))) hone (fun j v w w' hR' hS hv => ?_) ?_ _ _ _ _ (by simp) ?_ ?_ ⟨hR, rfl, rfl, ?_, fun _ _ => rfl, ?_⟩)
  · by_cases hj : j < z
    · exact (hone j _ (Array.getElem?_eq_getElem (by omega)) (by omega)).1 v w w' hR' hS hv
    · rw [List.getD_eq_getElem?_getD, List.getElem?_eq_none (by omega)]
      trivial
  · intro a w hd hr hRw hdef hsz
    have := fin_tail (a0 := a0) (all := Vs) (a := a) (w := w) (z := z) (fun i hi d hd' => hd i (by omega) (by omega) d hd') hr src 0 _ (fun s hs => by
      have := List.all_eq_true.1 hsrc s (List.mem_range.2 (by omega))
      rw [Nat.zero_add]
      split
      · rename_i e
        rw [e] at this
        intro j hj
        by_cases hjl : j < ops.size
        · have := List.all_eq_true.1 this j (List.mem_range.2 (by omega))
          simpa using this
        · rw [dstAt_none hjl]; simp
      · rename_i e
        rw [e] at this
        simpa using this) (h2 w hRw)
    have e : ((List.range src.length).map fun s => a.tmps.getD (0 + s) undef).toArray = a.tmps := by
      apply Array.ext
      · simp [hlen, hsz]
      · intro i h1 h2
        simp [h2]
    rw [e, ← hdef] at this
    exact this
  · rw [Array.getD_eq_getD_getElem?]
    simp only [Array.getElem?_replicate]
    split <;> rfl
  · refine Nat.le_trans (List.countP_le_length ..) (by simp)
  · intro i d _ h
    rw [Array.getD_eq_getD_getElem?] at h
    simp only [Array.getElem?_replicate] at h
    split at h <;> simp at h
  · intro j o _ h
    rw [Array.getD_eq_getD_getElem?] at h
    simp only [Array.getElem?_replicate] at h
    split at h <;> simp at h
end
end Go.Proofs.Ytbpcbdlmkoajdaa
