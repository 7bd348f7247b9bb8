/- Lists of texts of the call's own: rows (cut at their heads or not). -/
import Derived.Test.YtbpcbdlmkoajdaaRowAt
namespace Go.Proofs.Ytbpcbdlmkoajdaa
open Go Go.RowKit
set_option maxRecDepth 100000
theorem info_txt : (Try.prog.info? 9).map (fun i => (i.zero, i.size, i.bytes)) = some (some (.string ⟨#[]⟩), 1, 16) := by kernel_rfl
theorem elem_txt : Elem Try.prog 27 9 (.string ⟨#[]⟩) 1 16 := ⟨Try.underlying27, info_txt, rfl, by omega⟩
def tvals (l : List (List UInt8)) : List Value := l.map fun x => Value.string (str x)
theorem tvals_length (l : List (List UInt8)) : (tvals l).length = l.length := by simp [tvals]
/-- A list of texts of the call's own. -/
abbrev TRow (w : World) (base : Nat) (v : Value) (l : List (List UInt8)) : Prop := RowAt w base 9 1 v l.length (tvals l)
theorem TRow.texts {w : World} {base : Nat} {v : Value} {l : List (List UInt8)} (h : TRow w base v l) : Texts w v l := RowAt.slice h
theorem TRow.cut {w : World} {base : Nat} {v : Value} {x : List UInt8} {l : List (List UInt8)} (h : TRow w base v (x :: l)) :
    ∃ g o cap, v = .slice (some ⟨g, o, none⟩) (l.length + 1) cap ∧ l.length + 1 ≤ cap ∧ (cap : Int) ≤ 9223372036854775807 ∧ w.cell? ⟨g, o, none⟩ = some (.string (str x)) ∧ TRow w base (.slice (some ⟨g, o + 1, none⟩) l.length (cap - 1)) l := by
  obtain ⟨g, o, cap, rfl, h1, h2, h3⟩ := h.tail 1 (by simp) (by simp)
  obtain ⟨A, cap', hv, _, _, _, hc⟩ := h.form
  simp only [Value.slice.injEq, true_and] at hv
  obtain ⟨rfl, rfl⟩ := hv
  refine ⟨g, o, cap, rfl, by simpa using h1, h2, ?_, ?_⟩
  · have := (hc g o rfl).2.2.1 0 _ rfl
    rwa [Nat.add_zero] at this
  · simp only [List.length_cons, Nat.add_sub_cancel, Nat.one_mul, tvals, List.map_cons, List.drop_succ_cons, List.drop_zero] at h3
    exact h3
theorem TRow.cut1 {w : World} {base : Nat} {g o n : Nat} {x : List UInt8} (h : RowAt w base 9 1 (.slice (some ⟨g, o, none⟩) n 1) 1 (tvals [x])) : TRow w base (.slice (some ⟨g, o, none⟩) 0 0) [] := by
  refine ⟨by simp [tvals], ?_⟩
  rcases h.2 with ⟨hn, _⟩ | ⟨g', o', cap, cur, e, h0, h1, h2, h3, h4, h5⟩
  · cases hn
  · simp only [Value.slice.injEq, Option.some.injEq, Addr.mk.injEq, and_true] at e
    obtain ⟨⟨rfl, rfl⟩, _, rfl⟩ := e
    exact .inr ⟨g, o, 0, cur, rfl, h0, h1, by simp, by simp, by omega, by simp [tvals]⟩
end Go.Proofs.Ytbpcbdlmkoajdaa
