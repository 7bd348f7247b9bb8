/- Lists of ints of the call's own: rows (cut at their heads or not), and what is appended to them. -/
import Derived.Test.YtbgogbelnipfdaaRowAt
import Derived.Test.YtbgogbelnipfdaaInts
namespace Go.Proofs.Ytbgogbelnipfdaa
open Go Go.RowKit
set_option maxRecDepth 100000
theorem info_int : (Try.prog.info? 3).map (fun i => (i.zero, i.size, i.bytes)) = some (some (.int .i64 0), 1, 8) := by kernel_rfl
theorem elem_int : Elem Try.prog 22 3 (.int .i64 0) 1 8 := ⟨Try.underlying22, info_int, rfl, by omega⟩
def vals (l : List Int) : List Value := l.map fun x => Value.int .i64 x
theorem vals_length (l : List Int) : (vals l).length = l.length := by simp [vals]
theorem vals_append (a b : List Int) : vals (a ++ b) = vals a ++ vals b := by simp [vals]
theorem vals_one (l : List Int) : ∀ u ∈ vals l, u.oneCell' = true := by
  intro u hu
  obtain ⟨s, _, rfl⟩ := List.mem_map.1 hu
  rfl
/-- A list of ints of the call's own. -/
abbrev IRow (w : World) (base : Nat) (v : Value) (l : List Int) : Prop := RowAt w base 3 1 v l.length (vals l)
theorem IRow.ints {w : World} {base : Nat} {v : Value} {l : List Int} (h : IRow w base v l) : Ints w v l := RowAt.slice h
theorem IRow.src {w : World} {base : Nat} {v : Value} {l : List Int} (h : IRow w base v l) : Src Try.prog 1 22 v l.length (vals l) w := src_rowAt Try.underlying22 h (vals_one l)
theorem Ints.src {w : World} {v : Value} {l : List Int} (h : Ints w v l) : Src Try.prog 1 22 v l.length (vals l) w := by
  obtain ⟨A, cap, rfl, h1, h2, h3⟩ := h.one_
  refine src_slice Try.underlying22 (by simp [vals]) (fun hp => ?_) (vals_one l)
  obtain ⟨b, o, hA, _, _⟩ := h3 0 hp
  refine ⟨b, o, hA, fun j u hu => ?_⟩
  have hj : j < l.length := by simpa [vals] using (List.getElem?_eq_some_iff.1 hu).1
  obtain ⟨b', o', hA', _, hc⟩ := h3 j hj
  rw [hA] at hA'
  simp only [Option.some.injEq, Addr.mk.injEq, and_true] at hA'
  obtain ⟨rfl, rfl⟩ := hA'
  rw [hc, ← hu]
  simp [vals, hj]
theorem Sits.src {w : World} {b t : Nat} {l : List Int} (h : Sits w b t (vals l).toArray) : Src Try.prog 1 22 (.slice (some ⟨b, 0, none⟩) l.length l.length) l.length (vals l) w :=
  src_slice Try.underlying22 (by simp [vals]) (fun _ => ⟨b, 0, rfl, fun j u hu => by
    rw [Nat.zero_add, h.cell j]
    simpa using hu⟩) (vals_one l)
theorem IRow.cut {w : World} {base : Nat} {v : Value} {x : Int} {l : List Int} (h : IRow w base v (x :: l)) :
    ∃ g o cap, v = .slice (some ⟨g, o, none⟩) (l.length + 1) cap ∧ l.length + 1 ≤ cap ∧ (cap : Int) ≤ 9223372036854775807 ∧ w.cell? ⟨g, o, none⟩ = some (.int .i64 x) ∧ IRow w base (.slice (some ⟨g, o + 1, none⟩) l.length (cap - 1)) l := by
  obtain ⟨g, o, cap, rfl, h1, h2, h3⟩ := h.tail 1 (by simp) (by simp)
  obtain ⟨A, cap', hv, _, _, _, hc⟩ := h.form
  simp only [Value.slice.injEq, true_and] at hv
  obtain ⟨rfl, rfl⟩ := hv
  refine ⟨g, o, cap, rfl, by simpa using h1, h2, ?_, ?_⟩
  · have := (hc g o rfl).2.2.1 0 _ rfl
    rwa [Nat.add_zero] at this
  · simp only [List.length_cons, Nat.add_sub_cancel, Nat.one_mul, vals, List.map_cons, List.drop_succ_cons, List.drop_zero] at h3
    exact h3
/-- The last one, where there is no room behind it: the address stays. -/
theorem IRow.cut1 {w : World} {base : Nat} {g o : Nat} {x : Int} (h : IRow w base (.slice (some ⟨g, o, none⟩) 1 1) [x]) : IRow w base (.slice (some ⟨g, o, none⟩) 0 0) [] := by
  refine ⟨by simp [vals], ?_⟩
  rcases h.2 with ⟨hn, _⟩ | ⟨g', o', cap, cur, e, h0, h1, h2, h3, h4, h5⟩
  · cases hn
  · simp only [Value.slice.injEq, Option.some.injEq, Addr.mk.injEq, and_true] at e
    obtain ⟨⟨rfl, rfl⟩, _, rfl⟩ := e
    exact .inr ⟨g, o, 0, cur, rfl, h0, h1, by simp, by simp, by omega, by simp [vals]⟩
end Go.Proofs.Ytbgogbelnipfdaa
