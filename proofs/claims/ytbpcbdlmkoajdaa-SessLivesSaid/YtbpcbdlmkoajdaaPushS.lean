/- A list of string values of the call's own: one more is appended; its values are read. -/
import Derived.Test.YtbpcbdlmkoajdaaTextRow
import Derived.Test.YtbpcbdlmkoajdaaMany
namespace Go.Proofs.Ytbpcbdlmkoajdaa
open Go Go.RowKit
set_option maxRecDepth 100000

theorem pushS_one {W : World} {base : Nat} {v : Value} {l : List (List UInt8)} (h : TRow W base v l) (x : (List UInt8)) (hb : base ≤ W.heap.size) (hl : l.length ≤ 1000000) (ty : TypeId) :
    ∃ A cap W', (Builtin.append_ #[27, 27] ty #[v, .slice (some ⟨W.heap.size, 0, none⟩) 1 1]).run Try.prog (W.alloc (.cells #[(Value.string (str x))] 9)) = .ok (.slice A ((l.length + 1 : Nat)) cap) W' ∧
      TRow W' base (.slice A ((l.length + 1 : Nat)) cap) (l ++ [x]) ∧ Below base W W' ∧ Many (fun k => v.ownBlock = some k) W W' ∧ l.length + 1 ≤ cap ∧ (cap : Int) ≤ 9223372036854775807 := by
  have hmx : maxLen = 9223372036854775807 := by decide
  have hal : Below W.heap.size W (W.alloc (.cells #[(Value.string (str x))] 9)) := (Below.refl _ W).alloc (Nat.le_refl _) _
  have h2 := h.below hal
  have hsrc : Src Try.prog 1 27 (.slice (some ⟨W.heap.size, 0, none⟩) 1 1) 1 [(Value.string (str x))] (W.alloc (.cells #[(Value.string (str x))] 9)) := src_slice Try.underlying27 rfl (fun _ => ⟨W.heap.size, 0, rfl, fun j u hu => by
    rw [Nat.zero_add, (Sits.fresh W 9 #[(Value.string (str x))]).cell j]
    simpa using hu⟩) (by simp [Value.oneCell'])
  obtain ⟨v3, w3, hr3, hX4, gr3, at3⟩ := appendAt_src elem_txt h2 hsrc ty (by omega) (by omega) (by rw [World.size_alloc]; omega)
  have hX5 : TRow w3 base v3 (l ++ [x]) := by
    have e1 : (l ++ [x]).length = l.length + 1 := by simp
    have e2 : tvals (l ++ [x]) = tvals l ++ [(Value.string (str x))] := by simp [tvals]
    show RowAt w3 base 9 1 v3 (l ++ [x]).length (tvals (l ++ [x]))
    rw [e1, e2]
    exact hX4
  obtain ⟨A3, c3, hv3, h31, h32, _, _⟩ := hX5.form
  have e1 : (l ++ [x]).length = l.length + 1 := by simp
  rw [e1] at hv3 h31
  subst hv3
  have hB : Below base W w3 := ((Below.refl base W).alloc hb _).grown gr3 (by rw [World.size_alloc]; omega) (fun k hk => (h2.lt k hk).1)
  exact ⟨A3, c3, w3, hr3, hX5, hB, ((Many.refl _ W).alloc _).grown gr3 fun b hb => hb, h31, h32⟩
theorem rowS_at {W : World} {base : Nat} {v : Value} {l : List (List UInt8)} (h : TRow W base v l) : ∃ A cap, v = .slice A l.length cap ∧ l.length ≤ cap ∧ (cap : Int) ≤ 9223372036854775807 ∧ ∀ i (hi : i < l.length), ∃ b o, A = some ⟨b, o, none⟩ ∧ W.cell? ⟨b, o + i, none⟩ = some (Value.string (str (l[i]))) := by
  obtain ⟨A, cap, hv, h1, h2, h3⟩ := Texts.at_ (TRow.texts h)
  exact ⟨A, cap, hv, h1, h2, fun i hi => let ⟨b, o, e, _, hc⟩ := h3 i hi; ⟨b, o, e, hc⟩⟩
end Go.Proofs.Ytbpcbdlmkoajdaa
