/- Parts of a slice, s[k:] and s[:k], of elements of any size: what they are, and that a copy may be made of them. -/
import Derived.Test.YtbpcbdlmkoajdaaRowS
import Derived.ChangeKeysEq
import Derived.Deep.MidRow
namespace Go.Proofs.Ytbpcbdlmkoajdaa
open Go Go.RowKit
set_option maxRecDepth 100000
set_option linter.unusedSimpArgs false

section
variable {α : Type} {s : Nat} {f : α → List Value} {T : TypeId} {W : World} {A : Option Addr} {cap : Nat} {X : List α}
/-- x[k:]. -/
theorem SliceAt.low (hu : Try.prog.underlying T = some (.slice (Try.prog.elem T))) {i : TypeInfo} (hi : Try.prog.info? (Try.prog.elem T) = some i) (hs : Try.prog.cellsOf (Try.prog.elem T) = s) (h : SliceAt s f W (.slice A X.length cap) X) (k : Nat) (hk : k ≤ X.length) :
    ∃ A' c', (∀ W', (Instr.slice T (.slice A X.length cap) (some (.int .i64 (k : Int))) none none).run Try.prog W' = .ok (.slice A' (X.length - k) c') W') ∧ SliceAt s f W (.slice A' (X.length - k) c') (X.drop k) := by
  obtain ⟨A0, cap0, e, h1, h2, h3⟩ := h
  simp only [Value.slice.injEq, true_and] at e
  obtain ⟨rfl, rfl⟩ := e
  refine ⟨if cap = k then A else A.map (·.add (k * s)), cap - k, fun W' => ?_, ?_⟩
  · have := run_slice_l (P := Try.prog) W' T A X.length cap hu .i64 (k : Int) (by omega) (by omega)
    rw [this, run_sizeOf W' hi, hs]
    simp [Result.andThen, sliced]
  · have hl : (X.drop k).length = X.length - k := List.length_drop
    refine ⟨if cap = k then A else A.map (·.add (k * s)), cap - k, by rw [hl], by omega, by omega, fun i hi => ?_⟩
    have hi' : k + i < X.length := by omega
    obtain ⟨b, o, rfl, hb, hc⟩ := h3 (k + i) hi'
    refine ⟨b, o + k * s, ?_, hb, fun j u hu => ?_⟩
    · rw [if_neg (by omega)]
      simp [Addr.add_mid]
    · rw [List.getElem_drop] at hu
      have := hc j u hu
      rw [Nat.add_mul] at this
      rw [show o + k * s + i * s + j = o + (k * s + i * s) + j by omega]
      exact this
/-- x[:k]. -/
theorem SliceAt.high (hu : Try.prog.underlying T = some (.slice (Try.prog.elem T))) {i : TypeInfo} (hi : Try.prog.info? (Try.prog.elem T) = some i) (hs : Try.prog.cellsOf (Try.prog.elem T) = s) (h : SliceAt s f W (.slice A X.length cap) X) (k : Nat) (hk : k ≤ X.length) :
    ∃ A' c', (∀ W', (Instr.slice T (.slice A X.length cap) none (some (.int .i64 (k : Int))) none).run Try.prog W' = .ok (.slice A' k c') W') ∧ SliceAt s f W (.slice A' k c') (X.take k) := by
  obtain ⟨A0, cap0, e, h1, h2, h3⟩ := h
  simp only [Value.slice.injEq, true_and] at e
  obtain ⟨rfl, rfl⟩ := e
  refine ⟨if cap = 0 then A else A.map (·.add (0 * s)), cap - 0, fun W' => ?_, ?_⟩
  · have := run_slice_h (P := Try.prog) W' T A X.length cap hu .i64 (k : Int) (by omega) (by omega)
    rw [this, run_sizeOf W' hi, hs]
    simp [Result.andThen, sliced]
  · have hl : (X.take k).length = k := by rw [List.length_take]; omega
    refine ⟨if cap = 0 then A else A.map (·.add (0 * s)), cap - 0, by rw [hl], by omega, by omega, fun i hi => ?_⟩
    have hi' : i < X.length := by omega
    obtain ⟨b, o, rfl, hb, hc⟩ := h3 i hi'
    refine ⟨b, o, ?_, hb, fun j u hu => ?_⟩
    · rw [if_neg (by omega)]
      simp [Addr.add_mid]
    · rw [List.getElem_take] at hu
      exact hc j u hu
/-- A slice is where an append may take its elements from. -/
theorem SliceAt.src {e : TypeId} (hu : Try.prog.underlying T = some (.slice e)) {v : Value} (hf : ∀ x, (f x).length = s) (h0 : 0 < s) (h1 : ∀ x, ∀ u ∈ f x, u.oneCell' = true) (h : SliceAt s f W v X) : Src Try.prog s T v X.length (X.flatMap f) W := by
  obtain ⟨A, cap, rfl, _, _, h3⟩ := h
  refine src_slice hu (flat_len hf X) (fun hp => ?_) (fun u hu => ?_)
  · obtain ⟨b, o, rfl, _, _⟩ := h3 0 hp
    refine ⟨b, o, rfl, fun j u hj => ?_⟩
    have hl : j < X.length * s := by rw [← flat_len hf X]; exact (List.getElem?_eq_some_iff.1 hj).1
    have hd : j / s < X.length := Nat.div_lt_of_lt_mul (by rw [Nat.mul_comm]; exact hl)
    obtain ⟨b', o', e', _, hc⟩ := h3 (j / s) hd
    injection e' with e'
    injection e' with e1 e2 _
    subst e1 e2
    have hlt : j % s < (f X[j / s]).length := by rw [hf]; exact Nat.mod_lt _ h0
    have hq := flat_at hf X (j / s) hd (j % s) _ (List.getElem?_eq_getElem hlt)
    have hdm : j / s * s + j % s = j := by rw [Nat.mul_comm]; exact Nat.div_add_mod j s
    rw [hdm, hj] at hq
    have hr := hc (j % s) _ (List.getElem?_eq_getElem hlt)
    rw [Nat.add_assoc, hdm] at hr
    rw [hr]
    exact hq.symm
  · obtain ⟨x, _, hx⟩ := List.mem_flatMap.1 hu
    exact h1 x u hx
end
end Go.Proofs.Ytbpcbdlmkoajdaa
