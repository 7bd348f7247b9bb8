/- Lists of spans in memory: how they are read, cut, and appended to. -/
import Derived.Test.YtehnobcjoaclcaaGreatSpanB
import Derived.Test.YtehnobcjoaclcaaGreatGD
namespace Go.Proofs.YtehnobcjoaclcaaGreat
open Go Go.RowKit SpanP Go.ChangeShapes Go.WideShapes
set_option maxRecDepth 100000
set_option maxHeartbeats 1000000
set_option linter.unusedSimpArgs false

def cellsS (l : List S) : List Value := l.flatMap encS
theorem cellsS_length (l : List S) : (cellsS l).length = l.length * 2 := by
  unfold cellsS
  induction l with
  | nil => rfl
  | cons x l ih => simp only [List.flatMap_cons, List.length_append, encS_len, List.length_cons] at ih ⊢; omega
theorem cellsS_append (a b : List S) : cellsS (a ++ b) = cellsS a ++ cellsS b := by simp [cellsS]
theorem cellsS_cons (s : S) (l : List S) : cellsS (s :: l) = encS s ++ cellsS l := by simp [cellsS]
theorem cellsS_at : ∀ (l : List S) (i j : Nat) (h : i < l.length), j < 2 → (cellsS l)[i * 2 + j]? = (encS l[i])[j]?
  | x :: l, 0, j, _, hj => by
    rw [cellsS_cons, Nat.zero_mul, Nat.zero_add, List.getElem?_append_left (by rw [encS_len]; exact hj)]
    rfl
  | x :: l, i + 1, j, h, hj => by
    rw [cellsS_cons, List.getElem?_append_right (by rw [encS_len]; omega), encS_len, show (i + 1) * 2 + j - 2 = i * 2 + j by omega]
    exact cellsS_at l i j (by simpa using h) hj
theorem cellsS_one (l : List S) : ∀ u ∈ cellsS l, u.oneCell' = true := by
  intro u hu
  unfold cellsS at hu
  obtain ⟨s, _, hs⟩ := List.mem_flatMap.1 hu
  simp only [encS, List.mem_cons, List.not_mem_nil, or_false] at hs
  rcases hs with rfl | rfl <;> rfl
theorem elemS : Elem Tryz.prog 22 43 (.agg #[.int .i64 0, .int .i64 0]) 2 16 := ⟨Tryz.underlying22, by kernel_rfl, rfl, by omega⟩
/-- A list of spans of the call's own. -/
abbrev SRow (w : World) (base : Nat) (v : Value) (l : List S) : Prop := RowAt w base 43 2 v l.length (cellsS l)
theorem SRow.spans {w : World} {base : Nat} {v : Value} {l : List S} (h : SRow w base v l) : Spans w v l := by
  obtain ⟨A, cap, rfl, h2, h3, h4, h5⟩ := h.form
  refine ⟨A, cap, rfl, h2, h3, fun i hi => ?_⟩
  obtain ⟨g, o, rfl⟩ := h4 (by omega)
  obtain ⟨_, h6, h7, _⟩ := h5 g o rfl
  refine ⟨g, o, rfl, h6, fun j u hu => ?_⟩
  have hj : j < 2 := (List.getElem?_eq_some_iff.1 hu).1
  rw [Nat.add_assoc]
  exact h7 (i * 2 + j) u ((cellsS_at l i j hi hj).trans hu)
theorem Spans.read {w : World} {v : Value} {l : List S} (h : Spans w v l) : ∃ A cap, v = .slice A l.length cap ∧ l.length ≤ cap ∧ (cap : Int) ≤ 9223372036854775807 ∧
    ∀ i (hi : i < l.length), ∃ b o, A = some ⟨b, o, none⟩ ∧ b < w.heap.size ∧ w.cell? ⟨b, o + i * 2, none⟩ = some (.int .i64 l[i].1) ∧ w.cell? ⟨b, o + i * 2 + 1, none⟩ = some (.int .i64 l[i].2) := by
  obtain ⟨A, cap, e, h1, h2, h3⟩ := h
  refine ⟨A, cap, e, h1, h2, fun i hi => ?_⟩
  obtain ⟨b, o, rfl, hlt, hc⟩ := h3 i hi
  have h4 := hc 0 _ rfl
  have h5 := hc 1 _ rfl
  rw [Nat.add_zero] at h4
  exact ⟨b, o, rfl, hlt, h4, h5⟩
theorem Spans.of_read {w : World} {A : Option Addr} {cap : Nat} {l : List S} (h1 : l.length ≤ cap) (h2 : (cap : Int) ≤ 9223372036854775807)
    (h : ∀ i (hi : i < l.length), ∃ b o, A = some ⟨b, o, none⟩ ∧ b < w.heap.size ∧ w.cell? ⟨b, o + i * 2, none⟩ = some (.int .i64 l[i].1) ∧ w.cell? ⟨b, o + i * 2 + 1, none⟩ = some (.int .i64 l[i].2)) : Spans w (.slice A l.length cap) l := by
  refine ⟨A, cap, rfl, h1, h2, fun i hi => ?_⟩
  obtain ⟨b, o, rfl, hlt, h4, h5⟩ := h i hi
  refine ⟨b, o, rfl, hlt, fun j u hu => ?_⟩
  rcases j with _ | _ | j
  · simp only [encS, List.getElem?_cons_zero, Option.some.injEq] at hu
    subst hu
    exact h4
  · simp only [encS, List.getElem?_cons_succ, List.getElem?_cons_zero, Nat.zero_add, Option.some.injEq] at hu
    subst hu
    exact h5
  · simp [encS] at hu
/-- The first one and the others. -/
theorem Spans.cut {w : World} {v : Value} {s : S} {l : List S} (h : Spans w v (s :: l)) : ∃ b o cap, v = .slice (some ⟨b, o, none⟩) (l.length + 1) cap ∧ l.length + 1 ≤ cap ∧ (cap : Int) ≤ 9223372036854775807 ∧ b < w.heap.size ∧
    w.cell? ⟨b, o, none⟩ = some (.int .i64 s.1) ∧ w.cell? ⟨b, o + 1, none⟩ = some (.int .i64 s.2) ∧ ∀ A, (l.length = 0 ∨ A = some ⟨b, o + 2, none⟩) → Spans w (.slice A l.length (cap - 1)) l := by
  obtain ⟨A, cap, e, h1, h2, h3⟩ := Spans.read h
  simp only [List.length_cons] at e h1
  obtain ⟨b, o, rfl, hlt, h4, h5⟩ := h3 0 (by simp)
  rw [Nat.zero_mul, Nat.add_zero] at h4 h5
  refine ⟨b, o, cap, e, h1, h2, hlt, h4, h5, fun A hA => Spans.of_read (by omega) (by omega) fun i hi => ?_⟩
  rcases hA with hA | rfl
  · omega
  · obtain ⟨b', o', e', _, h6, h7⟩ := h3 (i + 1) (by simpa using hi)
    simp only [Option.some.injEq, Addr.mk.injEq, and_true] at e'
    obtain ⟨rfl, rfl⟩ := e'
    rw [show o + (i + 1) * 2 = o + 2 + i * 2 by omega] at h6 h7
    exact ⟨b, o + 2, rfl, hlt, h6, h7⟩
theorem Spans.src {w : World} {v : Value} {l : List S} (h : Spans w v l) : Src Tryz.prog 2 22 v l.length (cellsS l) w := by
  obtain ⟨A, cap, rfl, h1, h2, h3⟩ := h
  refine src_slice Tryz.underlying22 (cellsS_length l) (fun hp => ?_) (cellsS_one l)
  obtain ⟨b, o, hA, _, _⟩ := h3 0 hp
  refine ⟨b, o, hA, fun j u hu => ?_⟩
  have hj : j < l.length * 2 := by rw [← cellsS_length]; exact (List.getElem?_eq_some_iff.1 hu).1
  have hi : j / 2 < l.length := by omega
  obtain ⟨b', o', hA', _, hc⟩ := h3 (j / 2) hi
  rw [hA] at hA'
  simp only [Option.some.injEq, Addr.mk.injEq, and_true] at hA'
  obtain ⟨rfl, rfl⟩ := hA'
  have := hc (j % 2) u (by rw [← cellsS_at l (j / 2) (j % 2) hi (by omega), show j / 2 * 2 + j % 2 = j by omega]; exact hu)
  rwa [show o + j / 2 * 2 + j % 2 = o + j by omega] at this
theorem SRow.nil (w : World) (base : Nat) : SRow w base (.slice none 0 0) [] := RowAt.nil w base _ _
/-- One more is appended. -/
theorem pushS_one {W : World} {base : Nat} {v : Value} {l : List S} (h : SRow W base v l) (s : S) (hb : base ≤ W.heap.size) (hl : l.length ≤ 1000000) (ty : TypeId) :
    ∃ A cap W', (Builtin.append_ #[22, 22] ty #[v, .slice (some ⟨W.heap.size, 0, none⟩) 1 1]).run Tryz.prog (W.alloc (.cells #[.int .i64 s.1, .int .i64 s.2] 43)) = .ok (.slice A ((l.length + 1 : Nat)) cap) W' ∧
      SRow W' base (.slice A ((l.length + 1 : Nat)) cap) (l ++ [s]) ∧ Below base W W' ∧ Many (fun k => v.ownBlock = some k) W W' ∧ l.length + 1 ≤ cap ∧ (cap : Int) ≤ 9223372036854775807 := by
  have hmx : maxLen = 9223372036854775807 := by decide
  have hal : Below W.heap.size W (W.alloc (.cells #[.int .i64 s.1, .int .i64 s.2] 43)) := (Below.refl _ W).alloc (Nat.le_refl _) _
  have h2 := h.below hal
  have hsrc : Src Tryz.prog 2 22 (.slice (some ⟨W.heap.size, 0, none⟩) 1 1) 1 (encS s) (W.alloc (.cells #[.int .i64 s.1, .int .i64 s.2] 43)) := src_slice Tryz.underlying22 rfl (fun _ => ⟨W.heap.size, 0, rfl, fun j u hu => by
    rw [Nat.zero_add, (Sits.fresh W 43 #[.int .i64 s.1, .int .i64 s.2]).cell j]
    simpa [encS] using hu⟩) (by simp [encS, Value.oneCell'])
  obtain ⟨v3, w3, hr3, hX4, gr3, at3⟩ := appendAt_src elemS h2 hsrc ty (by omega) (by omega) (by rw [World.size_alloc]; omega)
  have e1 : (l ++ [s]).length = l.length + 1 := by simp
  have hX5 : SRow w3 base v3 (l ++ [s]) := by
    have e2 : cellsS (l ++ [s]) = cellsS l ++ encS s := by simp [cellsS]
    show RowAt w3 base 43 2 v3 (l ++ [s]).length (cellsS (l ++ [s]))
    rw [e1, e2]
    exact hX4
  obtain ⟨A3, c3, hv3, h31, h32, _, _⟩ := hX5.form
  rw [e1] at hv3 h31
  subst hv3
  have hB : Below base W w3 := ((Below.refl base W).alloc hb _).grown gr3 (by rw [World.size_alloc]; omega) (fun k hk => (h2.lt k hk).1)
  exact ⟨A3, c3, w3, hr3, hX5, hB, ((Many.refl _ W).alloc _).grown gr3 fun b hb => hb, h31, h32⟩
/-- A list is appended. -/
theorem pushS_all {W : World} {base : Nat} {v : Value} {l : List S} (h : SRow W base v l) {x : Value} {m : List S} (hx : Spans W x m) (hb : base ≤ W.heap.size) (hl : l.length ≤ 1000000) (hm : m.length ≤ 1000000) (ty : TypeId) :
    ∃ v' W', (Builtin.append_ #[22, 22] ty #[v, x]).run Tryz.prog W = .ok v' W' ∧ SRow W' base v' (l ++ m) ∧ Below base W W' ∧ Many (fun k => v.ownBlock = some k) W W' ∧ (v'.ownBlock = v.ownBlock ∨ v'.ownBlock = some W.heap.size) := by
  have hmx : maxLen = 9223372036854775807 := by decide
  obtain ⟨v3, w3, hr3, hX4, gr3, at3⟩ := appendAt_src elemS h hx.src ty (by omega) (by omega) hb
  have hX5 : SRow w3 base v3 (l ++ m) := by
    show RowAt w3 base 43 2 v3 (l ++ m).length (cellsS (l ++ m))
    rw [List.length_append, cellsS_append]
    exact hX4
  exact ⟨v3, w3, hr3, hX5, (Below.refl base W).grown gr3 hb (fun k hk => (h.lt k hk).1), (Many.refl _ W).grown gr3 fun b hb => hb, at3⟩
theorem spans_open {H : Type} {enc : TypeId × Value → H} {w : World} {base : Nat} {r : Reach} {v : Value} {d : DataW H} {p : List MemPlace} (hv : Value.okWide Tryz.prog w r base 22 v)
    (h : DataW.Trod enc Tryz.prog w 0 (fun _ => true) true 22 v d p) : ∃ l : List S, (∀ s ∈ l, (-9223372036854775808 ≤ s.1 ∧ s.1 ≤ 9223372036854775807) ∧ (-9223372036854775808 ≤ s.2 ∧ s.2 ≤ 9223372036854775807)) ∧ Spans w v l :=
  slice_open Tryz.underlying22 (by kernel_rfl) (by omega) (fun cs n sp held x ht hl => by
    obtain ⟨xs, m, _, _, _, hxl, hf⟩ := DataW.trod_struct Tryz.underlying43 ht
    match cs, hl, hf with
    | [c0, c1], _, hf =>
      have k3 : Tryz.prog.cellsOf 3 = 1 := by kernel_rfl
      have f0 := hf 0 _ rfl
      have f1 := hf 1 _ rfl
      simp [k3] at f0 f1
      have hx3 : xs.length = 2 := hxl
      obtain ⟨n0, e0, _, w0⟩ := DataW.trod_int Tryz.underlying3 (f0.trans (List.getElem?_eq_getElem (by omega)))
      obtain ⟨n1, e1, _, w1⟩ := DataW.trod_int Tryz.underlying3 (f1.trans (List.getElem?_eq_getElem (by omega)))
      simp only [List.cons.injEq, and_true] at e0 e1
      subst e0 e1
      have b0 := bounds_i64 w0
      have b1 := bounds_i64 w1
      exact ⟨(n0, n1), ⟨⟨by simp only; omega, by simp only; omega⟩, by simp only; omega, by simp only; omega⟩, rfl⟩) hv h
theorem span_open {H : Type} {enc : TypeId × Value → H} {w : World} {base : Nat} {r : Reach} {v : Value} {d : DataW H} {p : List MemPlace} (hv : Value.okWide Tryz.prog w r base 43 v)
    (h : DataW.Trod enc Tryz.prog w 0 (fun _ => true) true 43 v d p) : ∃ s : S, ((-9223372036854775808 ≤ s.1 ∧ s.1 ≤ 9223372036854775807) ∧ (-9223372036854775808 ≤ s.2 ∧ s.2 ≤ 9223372036854775807)) ∧ v = aggS s := by
  obtain ⟨cs, rfl, hsz⟩ := okWide_struct Tryz.underlying43 hv
  rw [show Tryz.prog.cellsOf 43 = 2 by kernel_rfl] at hsz
  obtain ⟨fuel, hf⟩ := h
  obtain ⟨l⟩ := cs
  match l, hsz with
  | [c0, c1], _ =>
    simp only [Value.cells] at hf
    obtain ⟨xs, m, _, _, _, hxl, hf⟩ := DataW.trod_struct Tryz.underlying43 hf
    have k3 : Tryz.prog.cellsOf 3 = 1 := by kernel_rfl
    have f0 := hf 0 _ rfl
    have f1 := hf 1 _ rfl
    simp [k3] at f0 f1
    have hx3 : xs.length = 2 := hxl
    obtain ⟨n0, e0, _, w0⟩ := DataW.trod_int Tryz.underlying3 (f0.trans (List.getElem?_eq_getElem (by omega)))
    obtain ⟨n1, e1, _, w1⟩ := DataW.trod_int Tryz.underlying3 (f1.trans (List.getElem?_eq_getElem (by omega)))
    simp only [List.cons.injEq, and_true] at e0 e1
    subst e0 e1
    have b0 := bounds_i64 w0
    have b1 := bounds_i64 w1
    exact ⟨(n0, n1), ⟨⟨by simp only; omega, by simp only; omega⟩, by simp only; omega, by simp only; omega⟩, rfl⟩
end Go.Proofs.YtehnobcjoaclcaaGreat
