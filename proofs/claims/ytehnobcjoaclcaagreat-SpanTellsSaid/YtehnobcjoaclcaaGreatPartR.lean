/- Lists of parts (commonsref1's Map) in memory: how they are read, and appended to. -/
import Derived.Test.YtehnobcjoaclcaaGreatGA
import Derived.Test.YtehnobcjoaclcaaGreatSpanR
namespace Go.Proofs.YtehnobcjoaclcaaGreat
open Go Go.RowKit SpanP PartP Go.ChangeShapes Go.WideShapes
set_option maxRecDepth 100000
set_option maxHeartbeats 1000000
set_option linter.unusedSimpArgs false

def encQ (x : Pt) : List Value := [.int .i64 x.1.1, .int .i64 x.1.2, .int .i64 x.2]
theorem encQ_len (x : Pt) : (encQ x).length = 3 := rfl
abbrev Parts := SliceAt 3 encQ
def cellsQ (l : List Pt) : List Value := l.flatMap encQ
theorem cellsQ_length (l : List Pt) : (cellsQ l).length = l.length * 3 := by
  unfold cellsQ
  induction l with
  | nil => rfl
  | cons x l ih => simp only [List.flatMap_cons, List.length_append, encQ_len, List.length_cons] at ih ⊢; omega
theorem cellsQ_append (a b : List Pt) : cellsQ (a ++ b) = cellsQ a ++ cellsQ b := by simp [cellsQ]
theorem cellsQ_cons (s : Pt) (l : List Pt) : cellsQ (s :: l) = encQ s ++ cellsQ l := by simp [cellsQ]
theorem cellsQ_at : ∀ (l : List Pt) (i j : Nat) (h : i < l.length), j < 3 → (cellsQ l)[i * 3 + j]? = (encQ l[i])[j]?
  | x :: l, 0, j, _, hj => by
    rw [cellsQ_cons, Nat.zero_mul, Nat.zero_add, List.getElem?_append_left (by rw [encQ_len]; exact hj)]
    rfl
  | x :: l, i + 1, j, h, hj => by
    rw [cellsQ_cons, List.getElem?_append_right (by rw [encQ_len]; omega), encQ_len, show (i + 1) * 3 + j - 3 = i * 3 + j by omega]
    exact cellsQ_at l i j (by simpa using h) hj
theorem cellsQ_one (l : List Pt) : ∀ u ∈ cellsQ l, u.oneCell' = true := by
  intro u hu
  unfold cellsQ at hu
  obtain ⟨s, _, hs⟩ := List.mem_flatMap.1 hu
  simp only [encQ, List.mem_cons, List.not_mem_nil, or_false] at hs
  rcases hs with rfl | rfl | rfl <;> rfl
theorem elemQ : Elem Tryz.prog 62 102 (.agg #[.int .i64 0, .int .i64 0, .int .i64 0]) 3 24 := ⟨Tryz.underlying62, by kernel_rfl, rfl, by omega⟩
abbrev QRow (w : World) (base : Nat) (v : Value) (l : List Pt) : Prop := RowAt w base 102 3 v l.length (cellsQ l)
theorem QRow.parts {w : World} {base : Nat} {v : Value} {l : List Pt} (h : QRow w base v l) : Parts w v l := by
  obtain ⟨A, cap, rfl, h2, h3, h4, h5⟩ := h.form
  refine ⟨A, cap, rfl, h2, h3, fun i hi => ?_⟩
  obtain ⟨g, o, rfl⟩ := h4 (by omega)
  obtain ⟨_, h6, h7, _⟩ := h5 g o rfl
  refine ⟨g, o, rfl, h6, fun j u hu => ?_⟩
  have hj : j < 3 := (List.getElem?_eq_some_iff.1 hu).1
  rw [Nat.add_assoc]
  exact h7 (i * 3 + j) u ((cellsQ_at l i j hi hj).trans hu)
theorem Parts.read {w : World} {v : Value} {l : List Pt} (h : Parts w v l) : ∃ A cap, v = .slice A l.length cap ∧ l.length ≤ cap ∧ (cap : Int) ≤ 9223372036854775807 ∧
    ∀ i (hi : i < l.length), ∃ b o, A = some ⟨b, o, none⟩ ∧ b < w.heap.size ∧ w.cell? ⟨b, o + i * 3, none⟩ = some (.int .i64 l[i].1.1) ∧ w.cell? ⟨b, o + i * 3 + 1, none⟩ = some (.int .i64 l[i].1.2) ∧ w.cell? ⟨b, o + i * 3 + 2, none⟩ = some (.int .i64 l[i].2) := by
  obtain ⟨A, cap, e, h1, h2, h3⟩ := h
  refine ⟨A, cap, e, h1, h2, fun i hi => ?_⟩
  obtain ⟨b, o, rfl, hlt, hc⟩ := h3 i hi
  have h4 := hc 0 _ rfl
  have h5 := hc 1 _ rfl
  have h6 := hc 2 _ rfl
  rw [Nat.add_zero] at h4
  exact ⟨b, o, rfl, hlt, h4, h5, h6⟩
theorem QRow.nil (w : World) (base : Nat) : QRow w base (.slice none 0 0) [] := RowAt.nil w base _ _
/-- One more is appended. -/
theorem pushQ_one {W : World} {base : Nat} {v : Value} {l : List Pt} (h : QRow W base v l) (s : Pt) (hb : base ≤ W.heap.size) (hl : l.length ≤ 1000000) (ty : TypeId) :
    ∃ A cap W', (Builtin.append_ #[62, 62] ty #[v, .slice (some ⟨W.heap.size, 0, none⟩) 1 1]).run Tryz.prog (W.alloc (.cells #[.int .i64 s.1.1, .int .i64 s.1.2, .int .i64 s.2] 102)) = .ok (.slice A ((l.length + 1 : Nat)) cap) W' ∧
      QRow W' base (.slice A ((l.length + 1 : Nat)) cap) (l ++ [s]) ∧ Below base W W' ∧ Many (fun k => v.ownBlock = some k) W W' ∧ l.length + 1 ≤ cap ∧ (cap : Int) ≤ 9223372036854775807 := by
  have hmx : maxLen = 9223372036854775807 := by decide
  have hal : Below W.heap.size W (W.alloc (.cells #[.int .i64 s.1.1, .int .i64 s.1.2, .int .i64 s.2] 102)) := (Below.refl _ W).alloc (Nat.le_refl _) _
  have h2 := h.below hal
  have hsrc : Src Tryz.prog 3 62 (.slice (some ⟨W.heap.size, 0, none⟩) 1 1) 1 (encQ s) (W.alloc (.cells #[.int .i64 s.1.1, .int .i64 s.1.2, .int .i64 s.2] 102)) := src_slice Tryz.underlying62 rfl (fun _ => ⟨W.heap.size, 0, rfl, fun j u hu => by
    rw [Nat.zero_add, (Sits.fresh W 102 #[.int .i64 s.1.1, .int .i64 s.1.2, .int .i64 s.2]).cell j]
    simpa [encQ] using hu⟩) (by simp [encQ, Value.oneCell'])
  obtain ⟨v3, w3, hr3, hX4, gr3, at3⟩ := appendAt_src elemQ h2 hsrc ty (by omega) (by omega) (by rw [World.size_alloc]; omega)
  have e1 : (l ++ [s]).length = l.length + 1 := by simp
  have hX5 : QRow w3 base v3 (l ++ [s]) := by
    have e2 : cellsQ (l ++ [s]) = cellsQ l ++ encQ s := by simp [cellsQ]
    show RowAt w3 base 102 3 v3 (l ++ [s]).length (cellsQ (l ++ [s]))
    rw [e1, e2]
    exact hX4
  obtain ⟨A3, c3, hv3, h31, h32, _, _⟩ := hX5.form
  rw [e1] at hv3 h31
  subst hv3
  have hB : Below base W w3 := ((Below.refl base W).alloc hb _).grown gr3 (by rw [World.size_alloc]; omega) (fun k hk => (h2.lt k hk).1)
  exact ⟨A3, c3, w3, hr3, hX5, hB, ((Many.refl _ W).alloc _).grown gr3 fun b hb => hb, h31, h32⟩
end Go.Proofs.YtehnobcjoaclcaaGreat
