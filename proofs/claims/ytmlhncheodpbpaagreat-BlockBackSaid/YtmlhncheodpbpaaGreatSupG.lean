/- A shape that comes in with a law. -/
import Derived.Test.YtmlhncheodpbpaaGreatGJ
import Derived.Test.YtmlhncheodpbpaaGreatGA
import Derived.OpenShut
namespace Go.Proofs.YtmlhncheodpbpaaGreat
open Go Go.RowKit SupP Go.ChangeShapes Go.WideShapes
set_option maxRecDepth 100000
set_option linter.unusedSimpArgs false
def In64 (v : Int) : Prop := -9223372036854775808 ≤ v ∧ v ≤ 9223372036854775807
theorem shape_open {H : Type} {enc : TypeId × Value → H} {w : World} {base : Nat} {r : Reach} {v : Value} {d : DataW H} {p : List MemPlace} (hv : Value.okWide Tryz.prog w r base 37 v)
    (h : DataW.Trod enc Tryz.prog w 0 (fun _ => true) true 37 v d p) : ∃ s : Sh, (In64 s.n ∧ In64 s.b ∧ In64 s.l ∧ In64 s.c ∧ In64 s.t) ∧ v = aggH s := by
  obtain ⟨cs, rfl, hsz⟩ := okWide_struct Tryz.underlying37 hv
  rw [show Tryz.prog.cellsOf 37 = 5 by kernel_rfl] at hsz
  obtain ⟨fuel, hf⟩ := h
  obtain ⟨l⟩ := cs
  match l, hsz with
  | [c0, c1, c2, c3, c4], _ =>
    simp only [Value.cells] at hf
    obtain ⟨xs, m, _, _, _, hxl, hf⟩ := DataW.trod_struct Tryz.underlying37 hf
    have k3 : Tryz.prog.cellsOf 3 = 1 := by kernel_rfl
    have f0 := hf 0 _ rfl
    have f1 := hf 1 _ rfl
    have f2 := hf 2 _ rfl
    have f3 := hf 3 _ rfl
    have f4 := hf 4 _ rfl
    simp [k3] at f0 f1 f2 f3 f4
    have hx3 : xs.length = 5 := hxl
    obtain ⟨n0, e0, _, w0⟩ := DataW.trod_int Tryz.underlying3 (f0.trans (List.getElem?_eq_getElem (by omega)))
    obtain ⟨n1, e1, _, w1⟩ := DataW.trod_int Tryz.underlying3 (f1.trans (List.getElem?_eq_getElem (by omega)))
    obtain ⟨n2, e2, _, w2⟩ := DataW.trod_int Tryz.underlying3 (f2.trans (List.getElem?_eq_getElem (by omega)))
    obtain ⟨n3, e3, _, w3⟩ := DataW.trod_int Tryz.underlying3 (f3.trans (List.getElem?_eq_getElem (by omega)))
    obtain ⟨n4, e4, _, w4⟩ := DataW.trod_int Tryz.underlying3 (f4.trans (List.getElem?_eq_getElem (by omega)))
    simp only [List.cons.injEq, and_true] at e0 e1 e2 e3 e4
    subst e0 e1 e2 e3 e4
    exact ⟨⟨n0, n1, n2, n3, n4⟩, ⟨wf_i64 w0, wf_i64 w1, wf_i64 w2, wf_i64 w3, wf_i64 w4⟩, rfl⟩
end Go.Proofs.YtmlhncheodpbpaaGreat
