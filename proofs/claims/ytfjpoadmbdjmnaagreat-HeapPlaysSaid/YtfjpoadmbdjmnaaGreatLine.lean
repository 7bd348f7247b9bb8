/- A region in the order of its text, in one pass: what each operation gives, said once. -/
import Derived.Test.YtfjpoadmbdjmnaaGreatTail
namespace Go.Proofs.YtfjpoadmbdjmnaaGreat
open Go Go.RowKit
set_option maxRecDepth 100000

section
variable {P : Program} {ops : Array Oper} {a0 : Act} {R : World → Prop} {St : World → World → Prop} {Q : Exit → Act → World → Prop} {all : List (Value → World → Prop)} {md : Region.Mode}

theorem list_of_any {n : Nat} {tbl : List (List (Nat × Option Nat))} (ht : tableB md ops n tbl = true) : ∀ (m i fuel : Nat) (listed : Array Bool) (a : Act) (w : World), i + m = ops.size → m ≤ fuel → listed.size = ops.size → (∀ j, j < ops.size → listed.getD j false = decide (j < i)) →
    wpAny P md ops Q fuel listed a w → wpList P ops Q (ops.toList.drop i) a w := by
  intro m
  induction m with
  | zero =>
    intro i fuel listed a w hi _ hsz hl h
    have hr : Region.ready md ops listed = [] := by
      cases e : Region.ready md ops listed with
      | nil => rfl
      | cons j r =>
        have hj : j ∈ Region.ready md ops listed := by rw [e]; exact List.mem_cons_self
        obtain ⟨o, ho, hlt, hlj, _⟩ := ready_spec hj
        rw [getD_two (by omega), hl j hlt, decide_eq_false_iff_not] at hlj
        omega
    rw [List.drop_eq_nil_of_le (by rw [Array.length_toList]; omega)]
    cases fuel with
    | zero => exact h.2
    | succ f => exact h.1 hr
  | succ m ih =>
    intro i fuel listed a w hi hf hsz hl h
    have hlt : i < ops.size := by omega
    cases fuel with
    | zero => omega
    | succ f =>
      have ho := Array.getElem?_eq_getElem hlt
      have htb := table_of ht ho
      have hr : i ∈ Region.ready md ops listed := ready_of ho (by rw [getD_two (by omega), hl i hlt]; simp) fun e he hb => by
        have := htb.after e he hb
        rw [hl _ (by omega)]
        simpa using this
      have hop := h.2 i hr
      have hnext : ∀ a' w', wpAny P md ops Q f (listed.setIfInBounds i true) a' w' → wpList P ops Q (ops.toList.drop (i + 1)) a' w' := fun a' w' h' =>
        ih (i + 1) f _ a' w' (by omega) (by omega) (by rw [Array.size_setIfInBounds]; exact hsz) (fun j hj => by
          rw [getD_set _ _ _ (by omega), hl j hj]
          by_cases e : i = j
          · subst e; simp
          · rw [if_neg e]
            exact decide_eq_decide.2 (by omega)) h'
      rw [List.drop_eq_getElem_cons (by rw [Array.length_toList]; exact hlt), Array.getElem_toList]
      unfold wpList
      unfold wpOp at hop
      rw [ho] at hop
      simp only at hop
      split
      · rename_i hwd
        rw [if_pos hwd] at hop
        rcases hop with h1 | h1
        · exact .inl (Oper.wp_mono hnext h1)
        · exact .inr h1
      · rename_i hwd
        rw [if_neg hwd] at hop
        exact hnext _ _ hop
/-- A region in the order of its text: the same, operation by operation. -/
theorem wp_region_line {id : Nat} {w0 : World} (R : World → Prop) (St : World → World → Prop) (tbl : List (List (Nat × Option Nat))) (src : List (Option Nat))
    (ht : tableB .any ops a0.tmps.size tbl = true) (hsrc : srcB ops a0.tmps.size src = true) (hR : R w0)
    (h : ExOf P ops a0 R St Q (fun all => ∀ w, R w → FinOf a0 all w 0 src fun vs => Q .normal ⟨vs.toArray, a0.defers⟩ w) ops.toList tbl []) : (Code.region id ops false).wp P Q a0 w0 := by
  have hlen := ex_length h
  obtain ⟨Vs, hall, hfin⟩ := all_of_ex (fun i t j hm => by
    have hi : i < ops.size := by
      false_or_by_contra
      rw [List.getD_eq_getElem?_getD, List.getElem?_eq_none (by rw [hlen, Array.length_toList]; omega)] at hm
      cases hm
    have := (table_of ht (Array.getElem?_eq_getElem hi)).given t j hm
    obtain ⟨_, e, he, hb, rfl⟩ := this
    have := (table_of ht (Array.getElem?_eq_getElem hi)).after e he hb
    simpa using this) h
  rw [List.nil_append] at hall hfin
  simp only [srcB, Bool.and_eq_true, decide_eq_true_eq] at hsrc
  obtain ⟨hlen, hsrc⟩ := hsrc
  refine wp_region_list ?_
  have hany := flat_any (P := P) (R := R) (St := St) (Q := Q) (all := Vs) ht hall (fun a w hd hr hRw hdef hsz => by
    have := fin_of (a0 := a0) (all := Vs) (a := a) (w := w) hd hr src 0 _ (fun s hs => by
      have := List.all_eq_true.1 hsrc s (List.mem_range.2 (by omega))
      rw [Nat.zero_add]
      split
      · rename_i e
        rw [e] at this
        intro j
        by_cases hj : j < ops.size
        · have := List.all_eq_true.1 this j (List.mem_range.2 hj)
          simpa using this
        · rw [dstAt_none hj]; simp
      · rename_i e
        rw [e] at this
        simpa using this) (hfin w hRw)
    have e : ((List.range src.length).map fun s => a.tmps.getD (0 + s) undef).toArray = a.tmps := by
      apply Array.ext
      · simp [hlen, hsz]
      · intro i h1 h2
        simp [h2]
    rw [e, ← hdef] at this
    exact this) ops.size (Array.replicate ops.size false) a0 w0 (by simp) (Nat.le_trans (List.countP_le_length ..) (by simp)) ⟨hR, rfl, rfl, fun i d _ h => by
      rw [Array.getD_eq_getD_getElem?] at h
      simp only [Array.getElem?_replicate] at h
      split at h <;> simp at h, fun _ _ => rfl, fun j o _ h => by
      rw [Array.getD_eq_getD_getElem?] at h
      simp only [Array.getElem?_replicate] at h
      split at h <;> simp at h⟩
  have := list_of_any ht ops.size 0 ops.size _ a0 w0 (by omega) (Nat.le_refl _) (by simp) (fun j hj => by
    rw [Array.getD_eq_getD_getElem?]
    simp only [Array.getElem?_replicate]
    split <;> rfl) hany
  simpa using this
end
end Go.Proofs.YtfjpoadmbdjmnaaGreat
