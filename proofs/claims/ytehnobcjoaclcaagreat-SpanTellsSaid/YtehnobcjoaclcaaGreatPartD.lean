/- commonsref1: a map of ranges: what Set appends, in whatever order the appends' operands are made. -/
import Derived.Test.YtehnobcjoaclcaaGreatPartC
import Derived.Test.YtehnobcjoaclcaaGreatGD
namespace Go.Proofs.YtehnobcjoaclcaaGreat
open Go Go.RowKit SpanP PartP
set_option maxRecDepth 100000
set_option maxHeartbeats 1000000
set_option linter.unusedSimpArgs false

/-- What is behind a piece of code, said once ahead of it. -/
theorem with_keys {α : Type} {P : Program} {c : Code} {Q : Exit → Act → World → Prop} {a : Act} {w : World} (C : World → α → Prop) (f : α → Act) (hk : ∀ w6 x, C w6 x → Q .normal (f x) w6) (h : (∀ w6 x, C w6 x → Q .normal (f x) w6) → c.wp P Q a w) : c.wp P Q a w := h hk
theorem parts_src {w : World} {v : Value} {l : List Pt} (h : Parts w v l) : Src Tryz.prog 3 62 v l.length (cellsQ l) w := by
  obtain ⟨A, cap, rfl, h1, h2, h3⟩ := h
  refine src_slice Tryz.underlying62 (cellsQ_length l) (fun hp => ?_) (cellsQ_one l)
  obtain ⟨b, o, hA, _, _⟩ := h3 0 hp
  refine ⟨b, o, hA, fun j u hu => ?_⟩
  have hj : j < l.length * 3 := by rw [← cellsQ_length]; exact (List.getElem?_eq_some_iff.1 hu).1
  have hi : j / 3 < l.length := by omega
  obtain ⟨b', o', hA', _, hc⟩ := h3 (j / 3) hi
  rw [hA] at hA'
  simp only [Option.some.injEq, Addr.mk.injEq, and_true] at hA'
  obtain ⟨rfl, rfl⟩ := hA'
  have := hc (j % 3) u (by rw [← cellsQ_at l (j / 3) (j % 3) hi (by omega), show j / 3 * 3 + j % 3 = j by omega]; exact hu)
  rwa [show o + j / 3 * 3 + j % 3 = o + j by omega] at this
/-- A list's first ones, and the others, as slices of it. -/
theorem Parts.head {w : World} {A : Option Addr} {cap : Nat} {l : List Pt} (h : Parts w (.slice A l.length cap) l) (k : Nat) (hk : k ≤ l.length) : Parts w (.slice A k cap) (l.take k) := by
  obtain ⟨A', cap', e, h1, h2, h3⟩ := h
  simp only [Value.slice.injEq, true_and] at e
  obtain ⟨rfl, rfl⟩ := e
  have hl : (l.take k).length = k := by rw [List.length_take]; omega
  refine ⟨A, cap, by rw [hl], by omega, h2, fun i hi => ?_⟩
  obtain ⟨b, o, hA, hb, hc⟩ := h3 i (by omega)
  exact ⟨b, o, hA, hb, fun j u hu => hc j u (by rw [← hu, List.getElem_take])⟩
theorem Parts.rest {w : World} {A : Option Addr} {cap : Nat} {l : List Pt} (h : Parts w (.slice A l.length cap) l) (k : Nat) (hk : k ≤ l.length) (A2 : Option Addr) (hA2 : l.length - k = 0 ∨ ∀ b o, A = some ⟨b, o, none⟩ → A2 = some ⟨b, o + k * 3, none⟩) : Parts w (.slice A2 (l.length - k) (cap - k)) (l.drop k) := by
  obtain ⟨A', cap', e, h1, h2, h3⟩ := h
  simp only [Value.slice.injEq, true_and] at e
  obtain ⟨rfl, rfl⟩ := e
  have hl : (l.drop k).length = l.length - k := List.length_drop
  refine ⟨A2, cap - k, by rw [hl], by omega, by omega, fun i hi => ?_⟩
  obtain ⟨b, o, hA, hb, hc⟩ := h3 (k + i) (by omega)
  rcases hA2 with h0 | h0
  · omega
  · refine ⟨b, o + k * 3, h0 b o hA, hb, fun j u hu => ?_⟩
    have := hc j u (by rw [← hu, List.getElem_drop])
    rwa [show o + (k + i) * 3 + j = o + k * 3 + i * 3 + j by omega] at this
/-- append of a list onto nil. -/
theorem app_one {W : World} {x : Value} {m : List Pt} (hx : Parts W x m) (hm : m.length ≤ 1000000) :
    ∃ v' W', (Builtin.append_ #[62, 62] 62 #[.slice none 0 0, x]).run Tryz.prog W = .ok v' W' ∧ QRow W' W.heap.size v' m ∧ Below W.heap.size W W' := by
  have hmx : maxLen = 9223372036854775807 := by decide
  obtain ⟨v3, w3, hr3, hX4, gr3, at3⟩ := appendAt_src elemQ (QRow.nil W W.heap.size) (parts_src hx) 62 (by simp; omega) (by simp; omega) (Nat.le_refl _)
  refine ⟨v3, w3, hr3, ?_, (Below.refl _ W).grown gr3 (Nat.le_refl _) (fun k hk => by simp [Value.ownBlock] at hk)⟩
  rw [List.length_nil, Nat.zero_add] at hX4
  exact hX4
/-- append of a list onto one of the call's own. -/
theorem app_more {W : World} {base : Nat} {v : Value} {l : List Pt} (h : QRow W base v l) {x : Value} {m : List Pt} (hx : Parts W x m) (hb : base ≤ W.heap.size) (hl : l.length ≤ 1000000) (hm : m.length ≤ 1000000) :
    ∃ v' W', (Builtin.append_ #[62, 62] 62 #[v, x]).run Tryz.prog W = .ok v' W' ∧ QRow W' base v' (l ++ m) ∧ Below base W W' := by
  have hmx : maxLen = 9223372036854775807 := by decide
  obtain ⟨v3, w3, hr3, hX4, gr3, at3⟩ := appendAt_src elemQ h (parts_src hx) 62 (by omega) (by omega) hb
  refine ⟨v3, w3, hr3, ?_, (Below.refl base W).grown gr3 hb (fun k hk => (h.lt k hk).1)⟩
  show RowAt w3 base 102 3 v3 (l ++ m).length (cellsQ (l ++ m))
  rw [List.length_append, cellsQ_append]
  exact hX4
theorem one_part {W : World} {g : Nat} {x : Pt} (h : Sits W g 102 #[.int .i64 x.1.1, .int .i64 x.1.2, .int .i64 x.2]) : Parts W (.slice (some ⟨g, 0, none⟩) 1 1) [x] := by
  refine ⟨some ⟨g, 0, none⟩, 1, rfl, by simp, by omega, fun i hi => ⟨g, 0, rfl, h.lt, fun j u hu => ?_⟩⟩
  obtain rfl : i = 0 := by simpa using hi
  simp only [Nat.zero_mul, Nat.zero_add]
  rw [h.cell]
  simpa [encQ] using hu
/-- Set's frame, its slots by their numbers. -/
def frameQ (f : Nat → Value) : Array Value := #[f 0, f 1, f 2, f 3, f 4, f 5, f 6, f 7, f 8, f 9, f 10, f 11, f 12, f 13, f 14, f 15, f 16, f 17, f 18, f 19, f 20, f 21, f 22, f 23, f 24, f 25, f 26, f 27, f 28, f 29, f 30, f 31, f 32, f 33, f 34, f 35, f 36, f 37, f 38, f 39, f 40, f 41, f 42, f 43, f 44, f 45, f 46, f 47, f 48, f 49, f 50, f 51, f 52, f 53, f 54, f 55, f 56, f 57, f 58, f 59, f 60, f 61, f 62, f 63, f 64, f 65, f 66, f 67, f 68, f 69, f 70, f 71, f 72, f 73, f 74, f 75, f 76, f 77, f 78, f 79, f 80, f 81, f 82, f 83, f 84, f 85, f 86, f 87, f 88, f 89, f 90, f 91, f 92, f 93, f 94, f 95, f 96, f 97, f 98, f 99, f 100, f 101, f 102, f 103, f 104, f 105, f 106, f 107, f 108]
theorem frameQ_eq (f : Nat → Value) : frameQ f = ((List.range 109).map f).toArray := by kernel_rfl
theorem open_actQ (a : Act) (hd : a.defers = []) (h : a.tmps.size = 109) : a = ⟨frameQ fun n => a.tmps.getD n undef, []⟩ := by
  obtain ⟨t, d⟩ := a
  simp only at hd h ⊢
  have e : t = frameQ fun n => t.getD n undef := by
    rw [frameQ_eq]
    refine Array.ext (by simp [h]) fun i h1 h2 => ?_
    simp [Array.getD_eq_getD_getElem?, h1]
  rw [hd, ← e]
/-- A row of parts: the last one's end is set. -/
theorem QRow.set {w : World} {base g o cap : Nat} {p : List Pt} {u : Pt} (h : QRow w base (.slice (some ⟨g, o, none⟩) (p.length + 1) cap) (p ++ [u])) (y : Int) :
    QRow (w.setCell ⟨g, o + p.length * 3 + 1, none⟩ (.int .i64 y)) base (.slice (some ⟨g, o, none⟩) (p.length + 1) cap) (p ++ [((u.1.1, y), u.2)]) := by
  have hl : (p ++ [u]).length = p.length + 1 := by simp
  have hl2 : (p ++ [((u.1.1, y), u.2)]).length = p.length + 1 := by simp
  refine ⟨cellsQ_length _, ?_⟩
  rcases h.2 with ⟨e, _⟩ | ⟨g', o', cap', cur, e, h0, hg, h1, h2, h3, h4⟩
  · cases e
  · simp only [Value.slice.injEq, Option.some.injEq, Addr.mk.injEq, and_true] at e
    obtain ⟨⟨rfl, rfl⟩, _, rfl⟩ := e
    have hs : Sits w g 102 cur := hg
    have hs2 := hs.put (o + p.length * 3 + 1) (.int .i64 y)
    rw [hl] at h1 h4
    refine .inr ⟨g, o, cap, _, by rw [hl2], h0, hs2, by rw [hl2]; exact h1, h2, by rw [Array.size_setIfInBounds]; exact h3, ?_⟩
    rw [hl2]
    refine List.ext_getElem? fun j => ?_
    have hj4 : _ = (cellsQ (p ++ [u]))[j]? := congrArg (fun t : List Value => t[j]?) h4
    by_cases hj : j < (p.length + 1) * 3
    · rw [List.getElem?_take_of_lt hj, List.getElem?_drop, Array.getElem?_toList] at hj4 ⊢
      rw [Array.getElem?_setIfInBounds]
      have hcu : (cellsQ (p ++ [u]))[j]? = if j < p.length * 3 then (cellsQ p)[j]? else (encQ u)[j - p.length * 3]? := by
        rw [cellsQ_append]
        split
        · rw [List.getElem?_append_left (by rw [cellsQ_length]; assumption)]
        · rw [List.getElem?_append_right (by rw [cellsQ_length]; omega), cellsQ_length]; simp [cellsQ]
      have hcy : (cellsQ (p ++ [((u.1.1, y), u.2)]))[j]? = if j < p.length * 3 then (cellsQ p)[j]? else (encQ ((u.1.1, y), u.2))[j - p.length * 3]? := by
        rw [cellsQ_append]
        split
        · rw [List.getElem?_append_left (by rw [cellsQ_length]; assumption)]
        · rw [List.getElem?_append_right (by rw [cellsQ_length]; omega), cellsQ_length]; simp [cellsQ]
      rw [hcu] at hj4
      rw [hcy]
      by_cases e1 : o + p.length * 3 + 1 = o + j
      · have : j = p.length * 3 + 1 := by omega
        subst this
        rw [if_pos e1, if_pos (show o + p.length * 3 + 1 < cur.size by omega), if_neg (show ¬ p.length * 3 + 1 < p.length * 3 by omega), show p.length * 3 + 1 - p.length * 3 = 1 by omega]
        rfl
      · rw [if_neg e1, hj4]
        split
        · rfl
        · obtain ⟨q, hq⟩ : ∃ q, j = p.length * 3 + q := ⟨j - p.length * 3, by omega⟩
          rw [hq, Nat.add_sub_cancel_left]
          have hq3 : q = 0 ∨ q = 2 := by omega
          rcases hq3 with rfl | rfl <;> rfl
    · rw [List.getElem?_eq_none (by rw [List.length_take]; omega), List.getElem?_eq_none (by rw [cellsQ_length, hl2]; omega)]
end Go.Proofs.YtehnobcjoaclcaaGreat
