/- Slices of pairs of ints that come in, as lists. -/
import Derived.Test.YtbgogbelnipfdaaInts
import Derived.Test.YtbgogbelnipfdaaBase
import Derived.OpenShut
namespace Go.Proofs.Ytbgogbelnipfdaa
open Go Go.RowKit Go.ChangeShapes Go.WideShapes
set_option maxRecDepth 100000
set_option maxHeartbeats 1000000

/-- A slice of pairs of ints. -/
abbrev Pairs := SliceAt 2 (fun x : Int × Int => [Value.int .i64 x.1, Value.int .i64 x.2])
theorem pairs_open {H : Type} {enc : TypeId × Value → H} {w : World} {base : Nat} {r : Reach} {v : Value} {d : DataW H} {p : List MemPlace} (hv : Value.okWide Try.prog w r base 36 v)
    (h : DataW.Trod enc Try.prog w 0 (fun _ => true) true 36 v d p) : ∃ l : List (Int × Int), (∀ x ∈ l, i64ok x.1 ∧ i64ok x.2) ∧ Pairs w v l :=
  slice_open Try.underlying36 (by kernel_rfl) (by omega) (fun cs n sp held x ht hl => by
    obtain ⟨xs, m, _, _, _, hxl, hf⟩ := DataW.trod_array Try.underlying40 ht
    match cs, hl, hf with
    | [c0, c1], _, hf =>
      have k3 : Try.prog.cellsOf 3 = 1 := by kernel_rfl
      have f0 := hf 0 (by omega)
      have f1 := hf 1 (by omega)
      simp [k3] at f0 f1
      obtain ⟨n0, e0, _, w0⟩ := DataW.trod_int Try.underlying3 (f0.trans (List.getElem?_eq_getElem (by omega)))
      obtain ⟨n1, e1, _, w1⟩ := DataW.trod_int Try.underlying3 (f1.trans (List.getElem?_eq_getElem (by omega)))
      simp only [List.cons.injEq, and_true] at e0 e1
      subst e0 e1
      have b0 := bounds_i64 w0
      have b1 := bounds_i64 w1
      exact ⟨(n0, n1), ⟨by simp only [i64ok]; omega, by simp only [i64ok]; omega⟩, rfl⟩) hv h
end Go.Proofs.Ytbgogbelnipfdaa
