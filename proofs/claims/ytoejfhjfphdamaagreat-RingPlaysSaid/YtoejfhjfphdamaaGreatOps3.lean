/- The operations of chapter 3's statements, as a list: three ints and a list of ints each. -/
import Derived.Test.YtoejfhjfphdamaaGreatRowT
namespace Go.Proofs.YtoejfhjfphdamaaGreat
open Go Go.RowKit Go.ChangeShapes Go.WideShapes Go.Deep
set_option maxRecDepth 100000
structure OpR where
  kind : Int
  n : Int
  v : Int
  lv : Value
  l : List Int
instance : Inhabited OpR := ⟨⟨0, 0, 0, .slice none 0 0, []⟩⟩
def opCells (a : OpR) : List Value := [.int .i64 a.kind, .int .i64 a.n, .int .i64 a.v, a.lv]
def OpR.Good (w : World) (a : OpR) : Prop := i64ok a.kind ∧ i64ok a.n ∧ i64ok a.v ∧ (∀ x ∈ a.l, i64ok x) ∧ Ints w a.lv a.l
theorem ops3_open {H : Type} {enc : TypeId × Value → H} {w : World} {base : Nat} {r : Reach} {v : Value} {d : DataW H} {p : List MemPlace} (hv : Value.okWide Tryz.prog w r base 22 v)
    (h : DataW.Trod enc Tryz.prog w 0 (fun _ => true) true 22 v d p) : ∃ l : List OpR, (∀ x ∈ l, OpR.Good w x) ∧ SliceAt 4 opCells w v l :=
  slice_open Tryz.underlying22 (by kernel_rfl) (by omega) (fun cs n sp held x ht hl => by
    obtain ⟨xs, m, _, _, _, hxl, hf⟩ := DataW.trod_struct Tryz.underlying49 ht
    match cs, hl, hf with
    | [c0, c1, c2, c3], _, hf =>
      have k3 : Tryz.prog.cellsOf 3 = 1 := by kernel_rfl
      have k4 : Tryz.prog.cellsOf 27 = 1 := by kernel_rfl
      have f0 := hf 0 _ rfl
      have f1 := hf 1 _ rfl
      have f2 := hf 2 _ rfl
      have f3 := hf 3 _ rfl
      simp [k3, k4] at f0 f1 f2 f3
      have hx4 : xs.length = 4 := hxl
      obtain ⟨n0, e0, _, w0⟩ := DataW.trod_int Tryz.underlying3 (f0.trans (List.getElem?_eq_getElem (by omega)))
      obtain ⟨n1, e1, _, w1⟩ := DataW.trod_int Tryz.underlying3 (f1.trans (List.getElem?_eq_getElem (by omega)))
      obtain ⟨n2, e2, _, w2⟩ := DataW.trod_int Tryz.underlying3 (f2.trans (List.getElem?_eq_getElem (by omega)))
      obtain ⟨lv, l, e3, h3, h4⟩ := ints_trod (f3.trans (List.getElem?_eq_getElem (by omega)))
      simp only [List.cons.injEq, and_true] at e0 e1 e2 e3
      subst e0 e1 e2 e3
      have b0 := bounds_i64 w0
      have b1 := bounds_i64 w1
      have b2 := bounds_i64 w2
      exact ⟨⟨n0, n1, n2, _, l⟩, ⟨by unfold i64ok; simp only; omega, by unfold i64ok; simp only; omega, by unfold i64ok; simp only; omega, h3, h4⟩, rfl⟩) hv h
end Go.Proofs.YtoejfhjfphdamaaGreat
