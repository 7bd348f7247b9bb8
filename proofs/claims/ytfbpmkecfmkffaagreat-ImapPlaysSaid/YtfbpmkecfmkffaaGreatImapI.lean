/- Package imap at int: lists of parts in memory: how they are read, cut, appended to. -/
import Derived.Test.YtfbpmkecfmkffaaGreatGA
import Derived.Test.YtfbpmkecfmkffaaGreatSpanR
import Derived.Test.YtfbpmkecfmkffaaGreatGD
namespace Go.Proofs.YtfbpmkecfmkffaaGreat
open Go Go.RowKit SpanP PartP ImapP Go.ChangeShapes Go.WideShapes
set_option maxRecDepth 100000
set_option maxHeartbeats 1000000
set_option linter.unusedSimpArgs false

def encMI (x : PtV Int) : List Value := [.int .i64 x.1.1, .int .i64 x.1.2, (Value.int .i64 x.2)]
def aggMI (x : PtV Int) : Value := .agg #[.int .i64 x.1.1, .int .i64 x.1.2, (Value.int .i64 x.2)]
theorem encMI_len (x : PtV Int) : (encMI x).length = 3 := rfl
abbrev PtsI := SliceAt 3 encMI
def cellsMI (l : List (PtV Int)) : List Value := l.flatMap encMI
theorem cellsMI_length (l : List (PtV Int)) : (cellsMI l).length = l.length * 3 := by
  unfold cellsMI
  induction l with
  | nil => rfl
  | cons x l ih => simp only [List.flatMap_cons, List.length_append, encMI_len, List.length_cons] at ih ⊢; omega
theorem cellsMI_append (a b : List (PtV Int)) : cellsMI (a ++ b) = cellsMI a ++ cellsMI b := by simp [cellsMI]
theorem cellsMI_cons (s : PtV Int) (l : List (PtV Int)) : cellsMI (s :: l) = encMI s ++ cellsMI l := by simp [cellsMI]
theorem cellsMI_at : ∀ (l : List (PtV Int)) (i j : Nat) (h : i < l.length), j < 3 → (cellsMI l)[i * 3 + j]? = (encMI l[i])[j]?
  | x :: l, 0, j, _, hj => by
    rw [cellsMI_cons, Nat.zero_mul, Nat.zero_add, List.getElem?_append_left (by rw [encMI_len]; exact hj)]
    rfl
  | x :: l, i + 1, j, h, hj => by
    rw [cellsMI_cons, List.getElem?_append_right (by rw [encMI_len]; omega), encMI_len, show (i + 1) * 3 + j - 3 = i * 3 + j by omega]
    exact cellsMI_at l i j (by simpa using h) hj
theorem cellsMI_one (l : List (PtV Int)) : ∀ u ∈ cellsMI l, u.oneCell' = true := by
  intro u hu
  unfold cellsMI at hu
  obtain ⟨s, _, hs⟩ := List.mem_flatMap.1 hu
  simp only [encMI, List.mem_cons, List.not_mem_nil, or_false] at hs
  rcases hs with rfl | rfl | rfl <;> rfl
theorem elemMI : Elem Tryz.prog 28 73 (.agg #[.int .i64 0, .int .i64 0, (Value.int .i64 0)]) 3 (16 + 8) := ⟨Tryz.underlying28, by kernel_rfl, rfl, by omega⟩
/-- A list of parts of the call's own. -/
abbrev MRowI (w : World) (base : Nat) (v : Value) (l : List (PtV Int)) : Prop := RowAt w base 73 3 v l.length (cellsMI l)
theorem MRowI.parts {w : World} {base : Nat} {v : Value} {l : List (PtV Int)} (h : MRowI w base v l) : PtsI w v l := by
  obtain ⟨A, cap, rfl, h2, h3, h4, h5⟩ := h.form
  refine ⟨A, cap, rfl, h2, h3, fun i hi => ?_⟩
  obtain ⟨g, o, rfl⟩ := h4 (by omega)
  obtain ⟨_, h6, h7, _⟩ := h5 g o rfl
  refine ⟨g, o, rfl, h6, fun j u hu => ?_⟩
  have hj : j < 3 := (List.getElem?_eq_some_iff.1 hu).1
  rw [Nat.add_assoc]
  exact h7 (i * 3 + j) u ((cellsMI_at l i j hi hj).trans hu)
theorem PtsI.read {w : World} {v : Value} {l : List (PtV Int)} (h : PtsI w v l) : ∃ A cap, v = .slice A l.length cap ∧ l.length ≤ cap ∧ (cap : Int) ≤ 9223372036854775807 ∧
    ∀ i (hi : i < l.length), ∃ b o, A = some ⟨b, o, none⟩ ∧ b < w.heap.size ∧ w.cell? ⟨b, o + i * 3, none⟩ = some (.int .i64 l[i].1.1) ∧ w.cell? ⟨b, o + i * 3 + 1, none⟩ = some (.int .i64 l[i].1.2) ∧ w.cell? ⟨b, o + i * 3 + 2, none⟩ = some (Value.int .i64 l[i].2) := by
  obtain ⟨A, cap, e, h1, h2, h3⟩ := h
  refine ⟨A, cap, e, h1, h2, fun i hi => ?_⟩
  obtain ⟨b, o, rfl, hlt, hc⟩ := h3 i hi
  have h4 := hc 0 _ rfl
  have h5 := hc 1 _ rfl
  have h6 := hc 2 _ rfl
  rw [Nat.add_zero] at h4
  exact ⟨b, o, rfl, hlt, h4, h5, h6⟩
theorem PtsI.src {w : World} {v : Value} {l : List (PtV Int)} (h : PtsI w v l) : Src Tryz.prog 3 28 v l.length (cellsMI l) w := by
  obtain ⟨A, cap, rfl, h1, h2, h3⟩ := h
  refine src_slice Tryz.underlying28 (cellsMI_length l) (fun hp => ?_) (cellsMI_one l)
  obtain ⟨b, o, hA, _, _⟩ := h3 0 hp
  refine ⟨b, o, hA, fun j u hu => ?_⟩
  have hj : j < l.length * 3 := by rw [← cellsMI_length]; exact (List.getElem?_eq_some_iff.1 hu).1
  have hi : j / 3 < l.length := by omega
  obtain ⟨b', o', hA', _, hc⟩ := h3 (j / 3) hi
  rw [hA] at hA'
  simp only [Option.some.injEq, Addr.mk.injEq, and_true] at hA'
  obtain ⟨rfl, rfl⟩ := hA'
  have := hc (j % 3) u (by rw [← cellsMI_at l (j / 3) (j % 3) hi (by omega), show j / 3 * 3 + j % 3 = j by omega]; exact hu)
  rwa [show o + j / 3 * 3 + j % 3 = o + j by omega] at this
/-- A list's first ones, and the others, as slices of it. -/
theorem PtsI.head {w : World} {A : Option Addr} {cap : Nat} {l : List (PtV Int)} (h : PtsI w (.slice A l.length cap) l) (k : Nat) (hk : k ≤ l.length) : PtsI w (.slice A k cap) (l.take k) := by
  obtain ⟨A', cap', e, h1, h2, h3⟩ := h
  simp only [Value.slice.injEq, true_and] at e
  obtain ⟨rfl, rfl⟩ := e
  have hl : (l.take k).length = k := by rw [List.length_take]; omega
  refine ⟨A, cap, by rw [hl], by omega, h2, fun i hi => ?_⟩
  obtain ⟨b, o, hA, hb, hc⟩ := h3 i (by omega)
  exact ⟨b, o, hA, hb, fun j u hu => hc j u (by rw [← hu, List.getElem_take])⟩
theorem PtsI.rest {w : World} {A : Option Addr} {cap : Nat} {l : List (PtV Int)} (h : PtsI w (.slice A l.length cap) l) (k : Nat) (hk : k ≤ l.length) (A2 : Option Addr) (hA2 : l.length - k = 0 ∨ ∀ b o, A = some ⟨b, o, none⟩ → A2 = some ⟨b, o + k * 3, none⟩) : PtsI w (.slice A2 (l.length - k) (cap - k)) (l.drop k) := by
  obtain ⟨A', cap', e, h1, h2, h3⟩ := h
  simp only [Value.slice.injEq, true_and] at e
  obtain ⟨rfl, rfl⟩ := e
  have hl : (l.drop k).length = l.length - k := List.length_drop
  refine ⟨A2, cap - k, by rw [hl], by omega, by omega, fun i hi => ?_⟩
  obtain ⟨b, o, hA, hb, hc⟩ := h3 (k + i) (by omega)
  rcases hA2 with h0 | h0
  · omega
  · refine ⟨b, o + k * 3, h0 b o hA, hb, fun j u hu => ?_⟩
    have := hc j u (by rw [← hu, List.getElem_drop])
    rwa [show o + (k + i) * 3 + j = o + k * 3 + i * 3 + j by omega] at this
theorem MRowI.nil (w : World) (base : Nat) : MRowI w base (.slice none 0 0) [] := RowAt.nil w base _ _
theorem oneMI {W : World} {g : Nat} {x : PtV Int} (h : Sits W g 73 #[.int .i64 x.1.1, .int .i64 x.1.2, (Value.int .i64 x.2)]) : PtsI W (.slice (some ⟨g, 0, none⟩) 1 1) [x] := by
  refine ⟨some ⟨g, 0, none⟩, 1, rfl, by simp, by omega, fun i hi => ⟨g, 0, rfl, h.lt, fun j u hu => ?_⟩⟩
  obtain rfl : i = 0 := by simpa using hi
  simp only [Nat.zero_mul, Nat.zero_add]
  rw [h.cell]
  simpa [encMI] using hu
/-- A list is appended. -/
theorem pushMI_all {W : World} {base : Nat} {v : Value} {l : List (PtV Int)} (h : MRowI W base v l) {x : Value} {m : List (PtV Int)} (hx : PtsI W x m) (hb : base ≤ W.heap.size) (hl : l.length ≤ 1000000) (hm : m.length ≤ 1000000) (ty : TypeId) :
    ∃ v' W', (Builtin.append_ #[28, 28] ty #[v, x]).run Tryz.prog W = .ok v' W' ∧ MRowI W' base v' (l ++ m) ∧ Below base W W' ∧ Many (fun k => v.ownBlock = some k) W W' ∧ (v'.ownBlock = v.ownBlock ∨ v'.ownBlock = some W.heap.size) := by
  have hmx : maxLen = 9223372036854775807 := by decide
  obtain ⟨v3, w3, hr3, hX4, gr3, at3⟩ := appendAt_src elemMI h hx.src ty (by omega) (by omega) hb
  have hX5 : MRowI w3 base v3 (l ++ m) := by
    show RowAt w3 base 73 3 v3 (l ++ m).length (cellsMI (l ++ m))
    rw [List.length_append, cellsMI_append]
    exact hX4
  exact ⟨v3, w3, hr3, hX5, (Below.refl base W).grown gr3 hb (fun k hk => (h.lt k hk).1), (Many.refl _ W).grown gr3 fun b hb => hb, at3⟩
/-- One more is appended. -/
theorem pushMI_one {W : World} {base : Nat} {v : Value} {l : List (PtV Int)} (h : MRowI W base v l) (s : PtV Int) (hb : base ≤ W.heap.size) (hl : l.length ≤ 1000000) (ty : TypeId) :
    ∃ A cap W', (Builtin.append_ #[28, 28] ty #[v, .slice (some ⟨W.heap.size, 0, none⟩) 1 1]).run Tryz.prog (W.alloc (.cells #[.int .i64 s.1.1, .int .i64 s.1.2, (Value.int .i64 s.2)] 73)) = .ok (.slice A ((l.length + 1 : Nat)) cap) W' ∧
      MRowI W' base (.slice A ((l.length + 1 : Nat)) cap) (l ++ [s]) ∧ Below base W W' ∧ Many (fun k => v.ownBlock = some k) W W' ∧ l.length + 1 ≤ cap ∧ (cap : Int) ≤ 9223372036854775807 := by
  have hal : Below W.heap.size W (W.alloc (.cells #[.int .i64 s.1.1, .int .i64 s.1.2, (Value.int .i64 s.2)] 73)) := (Below.refl _ W).alloc (Nat.le_refl _) _
  obtain ⟨v3, w3, hr3, hX5, hB, hM, _⟩ := pushMI_all (h.below hal) (oneMI (Sits.fresh W 73 #[.int .i64 s.1.1, .int .i64 s.1.2, (Value.int .i64 s.2)])) (by rw [World.size_alloc]; omega) hl (by simp) ty
  obtain ⟨A3, c3, hv3, h31, h32, _, _⟩ := hX5.form
  have e1 : (l ++ [s]).length = l.length + 1 := by simp
  rw [e1] at hv3 h31
  subst hv3
  exact ⟨A3, c3, w3, hr3, hX5, ((Below.refl base W).alloc hb _).trans hB, ((Many.refl _ W).alloc _).trans hM, h31, h32⟩
/-- A row of parts: the last one's end is set. -/
theorem MRowI.set {w : World} {base g o cap : Nat} {p : List (PtV Int)} {u : PtV Int} (h : MRowI w base (.slice (some ⟨g, o, none⟩) (p.length + 1) cap) (p ++ [u])) (y : Int) :
    MRowI (w.setCell ⟨g, o + p.length * 3 + 1, none⟩ (.int .i64 y)) base (.slice (some ⟨g, o, none⟩) (p.length + 1) cap) (p ++ [((u.1.1, y), u.2)]) := by
  have hl : (p ++ [u]).length = p.length + 1 := by simp
  have hl2 : (p ++ [((u.1.1, y), u.2)]).length = p.length + 1 := by simp
  refine ⟨cellsMI_length _, ?_⟩
  rcases h.2 with ⟨e, _⟩ | ⟨g', o', cap', cur, e, h0, hg, h1, h2, h3, h4⟩
  · cases e
  · simp only [Value.slice.injEq, Option.some.injEq, Addr.mk.injEq, and_true] at e
    obtain ⟨⟨rfl, rfl⟩, _, rfl⟩ := e
    have hs : Sits w g 73 cur := hg
    have hs2 := hs.put (o + p.length * 3 + 1) (.int .i64 y)
    rw [hl] at h1 h4
    refine .inr ⟨g, o, cap, _, by rw [hl2], h0, hs2, by rw [hl2]; exact h1, h2, by rw [Array.size_setIfInBounds]; exact h3, ?_⟩
    rw [hl2]
    refine List.ext_getElem? fun j => ?_
    have hj4 : _ = (cellsMI (p ++ [u]))[j]? := congrArg (fun t : List Value => t[j]?) h4
    by_cases hj : j < (p.length + 1) * 3
    · rw [List.getElem?_take_of_lt hj, List.getElem?_drop, Array.getElem?_toList] at hj4 ⊢
      rw [Array.getElem?_setIfInBounds]
      have hcu : (cellsMI (p ++ [u]))[j]? = if j < p.length * 3 then (cellsMI p)[j]? else (encMI u)[j - p.length * 3]? := by
        rw [cellsMI_append]
        split
        · rw [List.getElem?_append_left (by rw [cellsMI_length]; assumption)]
        · rw [List.getElem?_append_right (by rw [cellsMI_length]; omega), cellsMI_length]; simp [cellsMI]
      have hcy : (cellsMI (p ++ [((u.1.1, y), u.2)]))[j]? = if j < p.length * 3 then (cellsMI p)[j]? else (encMI ((u.1.1, y), u.2))[j - p.length * 3]? := by
        rw [cellsMI_append]
        split
        · rw [List.getElem?_append_left (by rw [cellsMI_length]; assumption)]
        · rw [List.getElem?_append_right (by rw [cellsMI_length]; omega), cellsMI_length]; simp [cellsMI]
      rw [hcu] at hj4
      rw [hcy]
      by_cases e1 : o + p.length * 3 + 1 = o + j
      · have : j = p.length * 3 + 1 := by omega
        subst this
        rw [if_pos e1, if_pos (show o + p.length * 3 + 1 < cur.size by omega), if_neg (show ¬ p.length * 3 + 1 < p.length * 3 by omega), show p.length * 3 + 1 - p.length * 3 = 1 by omega]
        rfl
      · rw [if_neg e1, hj4]
        split
        · rfl
        · obtain ⟨q, hq⟩ : ∃ q, j = p.length * 3 + q := ⟨j - p.length * 3, by omega⟩
          rw [hq, Nat.add_sub_cancel_left]
          have hq3 : q = 0 ∨ q = 2 := by omega
          rcases hq3 with rfl | rfl <;> rfl
    · rw [List.getElem?_eq_none (by rw [List.length_take]; omega), List.getElem?_eq_none (by rw [cellsMI_length, hl2]; omega)]
end Go.Proofs.YtfbpmkecfmkffaaGreat
