/- Lists of what is done to a map (chapter 7's Op) that come in: how they are opened and read. -/
import Derived.Test.YtfbpmkecfmkffaaGreatSpanR
namespace Go.Proofs.YtfbpmkecfmkffaaGreat
open Go Go.RowKit SpanP Go.ChangeShapes Go.WideShapes
set_option maxRecDepth 100000
set_option maxHeartbeats 1000000
set_option linter.unusedSimpArgs false

/-- Something that is done: its kind, two values, a span. -/
structure Op7 where
  k : Int
  v : Int
  w : Int
  s : S
  deriving Inhabited
def encO (x : Op7) : List Value := [.int .i64 x.k, .int .i64 x.v, .int .i64 x.w, .int .i64 x.s.1, .int .i64 x.s.2]
abbrev Opl := SliceAt 5 encO
def i64B (n : Int) : Prop := -9223372036854775808 ≤ n ∧ n ≤ 9223372036854775807
def goodO (x : Op7) : Prop := i64B x.k ∧ i64B x.v ∧ i64B x.w ∧ i64B x.s.1 ∧ i64B x.s.2
theorem ops_open {H : Type} {enc : TypeId × Value → H} {w : World} {base : Nat} {r : Reach} {v : Value} {d : DataW H} {p : List MemPlace} (hv : Value.okWide Tryz.prog w r base 22 v)
    (h : DataW.Trod enc Tryz.prog w 0 (fun _ => true) true 22 v d p) : ∃ l : List Op7, (∀ x ∈ l, goodO x) ∧ Opl w v l :=
  slice_open Tryz.underlying22 (by kernel_rfl) (by omega) (fun cs n sp held x ht hl => by
    obtain ⟨xs, m, _, _, _, hxl, hf⟩ := DataW.trod_struct Tryz.underlying52 ht
    match cs, hl, hf with
    | [c0, c1, c2, c3, c4], _, hf =>
      have k3 : Tryz.prog.cellsOf 3 = 1 := by kernel_rfl
      have k4 : Tryz.prog.cellsOf 50 = 2 := by kernel_rfl
      have f0 := hf 0 _ rfl
      have f1 := hf 1 _ rfl
      have f2 := hf 2 _ rfl
      have f3 := hf 3 _ rfl
      simp [k3, k4] at f0 f1 f2 f3
      have hx3 : xs.length = 4 := hxl
      obtain ⟨n0, e0, _, w0⟩ := DataW.trod_int Tryz.underlying3 (f0.trans (List.getElem?_eq_getElem (by omega)))
      obtain ⟨n1, e1, _, w1⟩ := DataW.trod_int Tryz.underlying3 (f1.trans (List.getElem?_eq_getElem (by omega)))
      obtain ⟨n2, e2, _, w2⟩ := DataW.trod_int Tryz.underlying3 (f2.trans (List.getElem?_eq_getElem (by omega)))
      obtain ⟨ys, m2, _, _, _, hyl, hg⟩ := DataW.trod_struct Tryz.underlying50 (f3.trans (List.getElem?_eq_getElem (by omega)))
      have g0 := hg 0 _ rfl
      have g1 := hg 1 _ rfl
      simp [k3] at g0 g1
      have hy3 : ys.length = 2 := hyl
      obtain ⟨n3, e3, _, w3⟩ := DataW.trod_int Tryz.underlying3 (g0.trans (List.getElem?_eq_getElem (by omega)))
      obtain ⟨n4, e4, _, w4⟩ := DataW.trod_int Tryz.underlying3 (g1.trans (List.getElem?_eq_getElem (by omega)))
      simp only [List.cons.injEq, and_true] at e0 e1 e2 e3 e4
      subst e0 e1 e2 e3 e4
      have b0 := bounds_i64 w0
      have b1 := bounds_i64 w1
      have b2 := bounds_i64 w2
      have b3 := bounds_i64 w3
      have b4 := bounds_i64 w4
      exact ⟨⟨n0, n1, n2, (n3, n4)⟩, ⟨⟨by simp only; omega, by simp only; omega⟩, ⟨by simp only; omega, by simp only; omega⟩, ⟨by simp only; omega, by simp only; omega⟩, ⟨by simp only; omega, by simp only; omega⟩, by simp only; omega, by simp only; omega⟩, rfl⟩) hv h
theorem Opl.read {w : World} {v : Value} {l : List Op7} (h : Opl w v l) : ∃ A cap, v = .slice A l.length cap ∧ l.length ≤ cap ∧ (cap : Int) ≤ 9223372036854775807 ∧
    ∀ i (hi : i < l.length), ∃ b o, A = some ⟨b, o, none⟩ ∧ b < w.heap.size ∧ w.cell? ⟨b, o + i * 5, none⟩ = some (.int .i64 l[i].k) ∧ w.cell? ⟨b, o + i * 5 + 1, none⟩ = some (.int .i64 l[i].v) ∧ w.cell? ⟨b, o + i * 5 + 2, none⟩ = some (.int .i64 l[i].w) ∧
      w.cell? ⟨b, o + i * 5 + 3, none⟩ = some (.int .i64 l[i].s.1) ∧ w.cell? ⟨b, o + i * 5 + 4, none⟩ = some (.int .i64 l[i].s.2) := by
  obtain ⟨A, cap, e, h1, h2, h3⟩ := h
  refine ⟨A, cap, e, h1, h2, fun i hi => ?_⟩
  obtain ⟨b, o, rfl, hlt, hc⟩ := h3 i hi
  have h0 := hc 0 _ rfl
  rw [Nat.add_zero] at h0
  exact ⟨b, o, rfl, hlt, h0, hc 1 _ rfl, hc 2 _ rfl, hc 3 _ rfl, hc 4 _ rfl⟩
end Go.Proofs.YtfbpmkecfmkffaaGreat
