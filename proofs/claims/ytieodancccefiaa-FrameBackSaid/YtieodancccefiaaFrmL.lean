/- The statements' own plain (chapter 15): a frame, field by field. -/
import Derived.Test.YtieodancccefiaaFrmS
import Derived.Deep.Cut
import Derived.OpenShut
import Derived.ChangeOld
namespace Go.Proofs.Ytieodancccefiaa
open Go Go.RowKit Go.ChangeShapes Go.WideShapes Go.ChangeAt
set_option maxRecDepth 100000
set_option maxHeartbeats 2000000
set_option linter.unusedSimpArgs false

theorem plain_any (f : Frm) (w : World) : Calls Try.prog 12 #[aggF f] w fun e w' => e = .returned (aggF f) ∧ Below w.heap.size w w' := by
  unfold aggF
  obtain ⟨D, hD⟩ : ∃ D, D = str f.d := ⟨_, rfl⟩
  rw [← hD]
  clear hD
  obtain ⟨w1, hw1⟩ : ∃ W, W = w.alloc (.cells #[.int .i64 f.f, .int .i64 f.t, .int .i64 f.m, .int .i64 f.y, .int .i64 f.s, .int .i64 f.a, .string D, .bool f.h] 23) := ⟨_, rfl⟩
  have hb1 : Below w.heap.size w w1 := hw1 ▸ (Below.refl _ w).alloc (Nat.le_refl _) _
  have hs1 : Sits w1 w.heap.size 23 #[.int .i64 f.f, .int .i64 f.t, .int .i64 f.m, .int .i64 f.y, .int .i64 f.s, .int .i64 f.a, .string D, .bool f.h] := hw1 ▸ Sits.fresh w _ _
  obtain ⟨gb, hgb⟩ : ∃ x, w1.heap.size = x := ⟨_, rfl⟩
  have hlt : w.heap.size < gb := by rw [← hgb]; exact hs1.lt
  obtain ⟨w2, hw2⟩ : ∃ W, W = w1.alloc (.cells #[.int .i64 0, .int .i64 0, .int .i64 0, .int .i64 0, .int .i64 0, .int .i64 0, .string ⟨#[]⟩, .bool false] 29) := ⟨_, rfl⟩
  have hs2 : Sits w2 gb 29 #[.int .i64 0, .int .i64 0, .int .i64 0, .int .i64 0, .int .i64 0, .int .i64 0, .string ⟨#[]⟩, .bool false] := by rw [hw2, ← hgb]; exact Sits.fresh w1 _ _
  have hb2 : Below w1.heap.size w1 w2 := hw2 ▸ (Below.refl _ w1).alloc (Nat.le_refl _) _
  have hs12 := hs1.below' hb2
  have HB := Lib.hid (hb1.trans (hb2.mono hb1.size))
  have y0 : w2.cell? ⟨w.heap.size, 0, none⟩ = some (.int .i64 f.f) := hs12.cell 0
  have y1 : w2.cell? ⟨w.heap.size, 1, none⟩ = some (.int .i64 f.t) := hs12.cell 1
  have y2 : w2.cell? ⟨w.heap.size, 2, none⟩ = some (.int .i64 f.m) := hs12.cell 2
  have y3 : w2.cell? ⟨w.heap.size, 3, none⟩ = some (.int .i64 f.y) := hs12.cell 3
  have y4 : w2.cell? ⟨w.heap.size, 4, none⟩ = some (.int .i64 f.s) := hs12.cell 4
  have y5 : w2.cell? ⟨w.heap.size, 5, none⟩ = some (.int .i64 f.a) := hs12.cell 5
  have y6 : w2.cell? ⟨w.heap.size, 6, none⟩ = some (.string D) := hs12.cell 6
  have y7 : w2.cell? ⟨w.heap.size, 7, none⟩ = some (.bool f.h) := hs12.cell 7
  have z0 : w2.cell? ⟨gb, 0, none⟩ = some (.int .i64 0) := hs2.cell 0
  have z1 : w2.cell? ⟨gb, 1, none⟩ = some (.int .i64 0) := hs2.cell 1
  have z2 : w2.cell? ⟨gb, 2, none⟩ = some (.int .i64 0) := hs2.cell 2
  have z3 : w2.cell? ⟨gb, 3, none⟩ = some (.int .i64 0) := hs2.cell 3
  have z4 : w2.cell? ⟨gb, 4, none⟩ = some (.int .i64 0) := hs2.cell 4
  have z5 : w2.cell? ⟨gb, 5, none⟩ = some (.int .i64 0) := hs2.cell 5
  have z6 : w2.cell? ⟨gb, 6, none⟩ = some (.string ⟨#[]⟩) := hs2.cell 6
  have z7 : w2.cell? ⟨gb, 7, none⟩ = some (.bool false) := hs2.cell 7
  have g0 := hs2.warm 0
  have g1 := hs2.warm 1
  have g2 := hs2.warm 2
  have g3 := hs2.warm 3
  have g4 := hs2.warm 4
  have g5 := hs2.warm 5
  have g6 := hs2.warm 6
  have g7 := hs2.warm 7
  have hl1 := hs12.lt
  have hl2 := hs2.lt
  have HS2 := Lib.hid hs2
  have HW := Lib.hid (And.intro hw1.symm (And.intro hgb hw2.symm))
  clear hb1 hs1 hs2 hb2 hs12 hw1 hw2 hgb
  go_enter Try.func12, Try.ntmps12
  go_upto_region 1 with fail
  rw [HW.out.1]
  try simp only [World.size_alloc]
  have hsz : w.heap.size + 1 = gb := by
    have := HW.out.2.1
    rw [← HW.out.1, World.size_alloc] at this
    exact this
  try rw [HW.out.2.2]
  try rw [hsz]
  clear HW hsz

  have hwg : w.heap.size ≤ gb := Nat.le_of_lt hlt
  go_wp2
  obtain ⟨Z, hZ⟩ : ∃ Z, Z = (((((((w2.setCell ⟨gb, 0, none⟩ (.int .i64 f.f)).setCell ⟨gb, 1, none⟩ (.int .i64 f.t)).setCell ⟨gb, 2, none⟩ (.int .i64 f.m)).setCell ⟨gb, 3, none⟩ (.int .i64 f.y)).setCell ⟨gb, 4, none⟩ (.int .i64 f.s)).setCell ⟨gb, 5, none⟩ (.int .i64 f.a)).setCell ⟨gb, 6, none⟩ (.string D)).setCell ⟨gb, 7, none⟩ (.bool f.h) := ⟨_, rfl⟩
  have hx : Sits Z gb 29 #[.int .i64 f.f, .int .i64 f.t, .int .i64 f.m, .int .i64 f.y, .int .i64 f.s, .int .i64 f.a, .string D, .bool f.h] := hZ ▸ ((((((((HS2.out.put 0 (.int .i64 f.f)).put 1 (.int .i64 f.t)).put 2 (.int .i64 f.m)).put 3 (.int .i64 f.y)).put 4 (.int .i64 f.s)).put 5 (.int .i64 f.a)).put 6 (.string D)).put 7 (.bool f.h))
  have hl8 : Below w.heap.size w Z := hZ ▸ ((((((((HB.out.setCell hwg _).setCell hwg _).setCell hwg _).setCell hwg _).setCell hwg _).setCell hwg _).setCell hwg _).setCell hwg _)
  rw [← hZ]
  have e0 : Z.cell? ⟨gb, 0, none⟩ = some (.int .i64 f.f) := hx.cell 0
  have e1 : Z.cell? ⟨gb, 1, none⟩ = some (.int .i64 f.t) := hx.cell 1
  have e2 : Z.cell? ⟨gb, 2, none⟩ = some (.int .i64 f.m) := hx.cell 2
  have e3 : Z.cell? ⟨gb, 3, none⟩ = some (.int .i64 f.y) := hx.cell 3
  have e4 : Z.cell? ⟨gb, 4, none⟩ = some (.int .i64 f.s) := hx.cell 4
  have e5 : Z.cell? ⟨gb, 5, none⟩ = some (.int .i64 f.a) := hx.cell 5
  have e6 : Z.cell? ⟨gb, 6, none⟩ = some (.string D) := hx.cell 6
  have e7 : Z.cell? ⟨gb, 7, none⟩ = some (.bool f.h) := hx.cell 7
  clear z0 z1 z2 z3 z4 z5 z6 z7 g0 g1 g2 g3 g4 g5 g6 g7 y0 y1 y2 y3 y4 y5 y6 y7 hx hZ
  refine bodyPost_ret (v := .agg #[.int .i64 f.f, .int .i64 f.t, .int .i64 f.m, .int .i64 f.y, .int .i64 f.s, .int .i64 f.a, .string D, .bool f.h]) ?_ rfl ⟨rfl, hl8⟩
  simp [results, Try.results12, go_sem, e0, e1, e2, e3, e4, e5, e6, e7]
theorem frame_open {H : Type} {enc : TypeId × Value → H} {w : World} {base : Nat} {r : Reach} {v : Value} {d : DataW H} {p : List MemPlace} (hv : Value.okWide Try.prog w r base 23 v)
    (h : DataW.Trod enc Try.prog w 0 (fun _ => true) true 23 v d p) : ∃ x : Frm, FrmIn x ∧ x.d.length ≤ 9223372036854775807 ∧ v = aggF x := by
  obtain ⟨cs, rfl, hsz⟩ := okWide_struct Try.underlying23 hv
  rw [show Try.prog.cellsOf 23 = 8 by kernel_rfl] at hsz
  obtain ⟨fuel, hf⟩ := h
  obtain ⟨l⟩ := cs
  match l, hsz with
  | [c0, c1, c2, c3, c4, c5, c6, c7], _ =>
    simp only [Value.cells] at hf
    obtain ⟨xs, m, _, _, _, hxl, hf⟩ := DataW.trod_struct Try.underlying23 hf
    have k3 : Try.prog.cellsOf 3 = 1 := by kernel_rfl
    have k4 : Try.prog.cellsOf 9 = 1 := by kernel_rfl
    have k5 : Try.prog.cellsOf 4 = 1 := by kernel_rfl
    have f0 := hf 0 _ rfl
    have f1 := hf 1 _ rfl
    have f2 := hf 2 _ rfl
    have f3 := hf 3 _ rfl
    have f4 := hf 4 _ rfl
    have f5 := hf 5 _ rfl
    have f6 := hf 6 _ rfl
    have f7 := hf 7 _ rfl
    simp [k3, k4, k5] at f0 f1 f2 f3 f4 f5 f6 f7
    have hx8 : xs.length = 8 := hxl
    obtain ⟨n0, e0, _, w0⟩ := DataW.trod_int Try.underlying3 (f0.trans (List.getElem?_eq_getElem (by omega)))
    obtain ⟨n1, e1, _, w1⟩ := DataW.trod_int Try.underlying3 (f1.trans (List.getElem?_eq_getElem (by omega)))
    obtain ⟨n2, e2, _, w2⟩ := DataW.trod_int Try.underlying3 (f2.trans (List.getElem?_eq_getElem (by omega)))
    obtain ⟨n3, e3, _, w3⟩ := DataW.trod_int Try.underlying3 (f3.trans (List.getElem?_eq_getElem (by omega)))
    obtain ⟨n4, e4, _, w4⟩ := DataW.trod_int Try.underlying3 (f4.trans (List.getElem?_eq_getElem (by omega)))
    obtain ⟨n5, e5, _, w5⟩ := DataW.trod_int Try.underlying3 (f5.trans (List.getElem?_eq_getElem (by omega)))
    obtain ⟨s6, e6, _, w6⟩ := DataW.trod_string Try.underlying9 (f6.trans (List.getElem?_eq_getElem (by omega)))
    obtain ⟨b7, e7, _⟩ := DataW.trod_bool Try.underlying4 (f7.trans (List.getElem?_eq_getElem (by omega)))
    simp only [List.cons.injEq, and_true] at e0 e1 e2 e3 e4 e5 e6 e7
    subst e0 e1 e2 e3 e4 e5 e6 e7
    obtain ⟨l6, rfl⟩ := as_str s6
    refine ⟨⟨n0, n1, n2, n3, n4, n5, l6, b7⟩, ⟨wf_i64 w0, wf_i64 w1, wf_i64 w2, wf_i64 w3, wf_i64 w4, wf_i64 w5⟩, ?_, rfl⟩
    rw [str_size] at w6
    exact w6
end Go.Proofs.Ytieodancccefiaa
