/- An image that comes in with a law. -/
import Derived.Test.YtmlhncheodpbpaaGreatBlkL
import Derived.Test.YtmlhncheodpbpaaGreatSupG
namespace Go.Proofs.YtmlhncheodpbpaaGreat
open Go Go.RowKit SupP Go.ChangeShapes Go.WideShapes
set_option maxRecDepth 100000
set_option linter.unusedSimpArgs false
structure ImIn (i : Im) : Prop where
  b : In64 i.b
  v : (i.v : Int) < 18446744073709551616
  d : (i.d.length : Int) ≤ 9223372036854775807
theorem image_open {H : Type} {enc : TypeId × Value → H} {w : World} {base : Nat} {r : Reach} {v : Value} {d : DataW H} {p : List MemPlace} (hv : Value.okWide Tryz.prog w r base 24 v)
    (h : DataW.Trod enc Tryz.prog w 0 (fun _ => true) true 24 v d p) : ∃ i : Im, ImIn i ∧ v = aggI i := by
  obtain ⟨cs, rfl, hsz⟩ := okWide_struct Tryz.underlying24 hv
  rw [show Tryz.prog.cellsOf 24 = 3 by kernel_rfl] at hsz
  obtain ⟨fuel, hf⟩ := h
  obtain ⟨l⟩ := cs
  match l, hsz with
  | [c0, c1, c2], _ =>
    simp only [Value.cells] at hf
    obtain ⟨xs, m, _, _, _, hxl, hf⟩ := DataW.trod_struct Tryz.underlying24 hf
    have k3 : Tryz.prog.cellsOf 3 = 1 := by kernel_rfl
    have k4 : Tryz.prog.cellsOf 22 = 1 := by kernel_rfl
    have k5 : Tryz.prog.cellsOf 9 = 1 := by kernel_rfl
    have f0 := hf 0 _ rfl
    have f1 := hf 1 _ rfl
    have f2 := hf 2 _ rfl
    simp [k3, k4, k5] at f0 f1 f2
    have hx3 : xs.length = 3 := hxl
    obtain ⟨n0, e0, _, w0⟩ := DataW.trod_int Tryz.underlying3 (f0.trans (List.getElem?_eq_getElem (by omega)))
    obtain ⟨n1, e1, _, w1⟩ := DataW.trod_int Tryz.underlying22 (f1.trans (List.getElem?_eq_getElem (by omega)))
    obtain ⟨s, e2, _, w2⟩ := DataW.trod_string Tryz.underlying9 (f2.trans (List.getElem?_eq_getElem (by omega)))
    simp only [List.cons.injEq, and_true] at e0 e1 e2
    subst e0 e1 e2
    obtain ⟨u, rfl, hu⟩ := wf_u64 w1
    have hmx : maxLen = 9223372036854775807 := by decide
    refine ⟨⟨n0, u, s.data.toList⟩, ⟨wf_i64 w0, hu, ?_⟩, ?_⟩
    · show ((s.data.toList.length : Nat) : Int) ≤ _
      rw [list_size]
      omega
    · unfold aggI
      simp only [str_of]
end Go.Proofs.YtmlhncheodpbpaaGreat
