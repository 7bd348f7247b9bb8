/- A region that draws its order, with two calls that come one behind the other: what holds ahead of the first, between the two, and behind the second. -/
import Derived.Test.YtkfbljbhdjnggaaFlatV
namespace Go.Proofs.Ytkfbljbhdjnggaa
open Go Go.RowKit
set_option maxRecDepth 100000

/-- What holds of the world as operations i and j, in this order, have come up. -/
def Cls (i j : Nat) (R0 R1 R2 : World → Prop) (d : Nat → Option Value) (W : World) : Prop :=
  (d i = none ∧ d j = none ∧ R0 W) ∨ ((d i).isSome = true ∧ d j = none ∧ R1 W) ∨ ((d i).isSome = true ∧ (d j).isSome = true ∧ R2 W)
section
variable {i j : Nat} {R0 R1 R2 : World → Prop} {d : Nat → Option Value} {W W' : World}
theorem Cls.start (h : R0 W) : Cls i j R0 R1 R2 (fun _ => none) W := .inl ⟨rfl, rfl, h⟩
theorem Cls.pure {k : Nat} (hi : k ≠ i) (hj : k ≠ j) {v : Value} (h : Cls i j R0 R1 R2 d W) : Cls i j R0 R1 R2 (setv d k v) W := by
  unfold Cls
  rw [setv_other d v hi, setv_other d v hj]
  exact h
theorem Cls.ahead (h : Cls i j R0 R1 R2 d W) (hd : d i = none) : R0 W := by
  rcases h with ⟨_, _, h⟩ | ⟨h, _⟩ | ⟨h, _⟩
  · exact h
  · rw [hd] at h; cases h
  · rw [hd] at h; cases h
theorem Cls.one {v : Value} (h : Cls i j R0 R1 R2 d W) (hd : d i = none) (hij : i ≠ j) (k : R1 W') : Cls i j R0 R1 R2 (setv d i v) W' := by
  refine .inr (.inl ⟨by rw [setv_same]; rfl, ?_, k⟩)
  rw [setv_other d v hij]
  rcases h with ⟨_, h, _⟩ | ⟨h, _⟩ | ⟨h, _⟩
  · exact h
  · rw [hd] at h; cases h
  · rw [hd] at h; cases h
theorem Cls.between {x : Value} (h : Cls i j R0 R1 R2 d W) (hi : d i = some x) (hd : d j = none) : R1 W := by
  rcases h with ⟨h, _⟩ | ⟨_, _, h⟩ | ⟨_, h, _⟩
  · rw [hi] at h; cases h
  · exact h
  · rw [hd] at h; cases h
theorem Cls.two {x v : Value} (hi : d i = some x) (hij : i ≠ j) (k : R2 W') : Cls i j R0 R1 R2 (setv d j v) W' :=
  .inr (.inr ⟨by rw [setv_other d v (fun e => hij e.symm), hi]; rfl, by rw [setv_same]; rfl, k⟩)
theorem Cls.behind {x : Value} (h : Cls i j R0 R1 R2 d W) (hj : d j = some x) : R2 W := by
  rcases h with ⟨_, h, _⟩ | ⟨_, h, _⟩ | ⟨_, _, h⟩
  · rw [hj] at h; cases h
  · rw [hj] at h; cases h
  · exact h
theorem Cls.done (h : Cls i j R0 R1 R2 d W) (hj : (d j).isSome = true) : R2 W := by
  obtain ⟨x, hx⟩ := Option.isSome_iff_exists.1 hj
  exact h.behind hx
/-- Something that holds in all three. -/
theorem Cls.all {C : World → Prop} (h : Cls i j R0 R1 R2 d W) (h0 : ∀ W, R0 W → C W) (h1 : ∀ W, R1 W → C W) (h2 : ∀ W, R2 W → C W) : C W := by
  rcases h with ⟨_, _, h⟩ | ⟨_, _, h⟩ | ⟨_, _, h⟩
  · exact h0 _ h
  · exact h1 _ h
  · exact h2 _ h
/-- The world turns in a way that each of the three outlives. -/
theorem Cls.turn (h : Cls i j R0 R1 R2 d W) (h0 : R0 W → R0 W') (h1 : R1 W → R1 W') (h2 : R2 W → R2 W') : Cls i j R0 R1 R2 d W' := by
  rcases h with ⟨a, b, h⟩ | ⟨a, b, h⟩ | ⟨a, b, h⟩
  · exact .inl ⟨a, b, h0 h⟩
  · exact .inr (.inl ⟨a, b, h1 h⟩)
  · exact .inr (.inr ⟨a, b, h2 h⟩)
end
/-- Beside the two calls one operation stores what a block g has from then on. -/
def ClsS (i j k : Nat) (R0 R1 R2 : World → Prop) (g t : Nat) (A B : Array Value) (d : Nat → Option Value) (W : World) : Prop :=
  Cls i j R0 R1 R2 d W ∧ Sits W g t (if (d k).isSome = true then B else A)
section
variable {i j k : Nat} {R0 R1 R2 : World → Prop} {g t : Nat} {A B : Array Value} {d : Nat → Option Value} {W W' : World}
theorem ClsS.start (h : R0 W) (hs : Sits W g t A) : ClsS i j k R0 R1 R2 g t A B (fun _ => none) W := ⟨Cls.start h, hs⟩
theorem ClsS.pure {m : Nat} (hi : m ≠ i) (hj : m ≠ j) (hk : m ≠ k) {v : Value} (h : ClsS i j k R0 R1 R2 g t A B d W) : ClsS i j k R0 R1 R2 g t A B (setv d m v) W :=
  ⟨h.1.pure hi hj, by rw [setv_other d v hk]; exact h.2⟩
theorem ClsS.one {v : Value} (h : ClsS i j k R0 R1 R2 g t A B d W) (hd : d i = none) (hij : i ≠ j) (hik : i ≠ k) (hr : R1 W') (hs : ∀ cs, Sits W g t cs → Sits W' g t cs) : ClsS i j k R0 R1 R2 g t A B (setv d i v) W' :=
  ⟨h.1.one hd hij hr, by rw [setv_other d v hik]; exact hs _ h.2⟩
theorem ClsS.two {x v : Value} (h : ClsS i j k R0 R1 R2 g t A B d W) (hi : d i = some x) (hij : i ≠ j) (hjk : j ≠ k) (hr : R2 W') (hs : ∀ cs, Sits W g t cs → Sits W' g t cs) : ClsS i j k R0 R1 R2 g t A B (setv d j v) W' :=
  ⟨Cls.two hi hij hr, by rw [setv_other d v hjk]; exact hs _ h.2⟩
theorem ClsS.old (h : ClsS i j k R0 R1 R2 g t A B d W) (hd : d k = none) : Sits W g t A := by
  have := h.2
  rwa [hd, if_neg (by simp)] at this
theorem ClsS.store {v : Value} (h : ClsS i j k R0 R1 R2 g t A B d W) (hki : k ≠ i) (hkj : k ≠ j) (h0 : R0 W → R0 W') (h1 : R1 W → R1 W') (h2 : R2 W → R2 W') (hs : Sits W' g t B) : ClsS i j k R0 R1 R2 g t A B (setv d k v) W' :=
  ⟨(h.1.turn h0 h1 h2).pure hki hkj, by rw [setv_same, if_pos (by rfl)]; exact hs⟩
theorem ClsS.done (h : ClsS i j k R0 R1 R2 g t A B d W) (hj : (d j).isSome = true) (hk : (d k).isSome = true) : R2 W ∧ Sits W g t B := ⟨h.1.done hj, by have := h.2; rwa [if_pos hk] at this⟩
end
/-- One operation stores what a block g has from then on; all others leave the world. -/
def OneS (k : Nat) (R : World → Prop) (g t : Nat) (A B : Array Value) (d : Nat → Option Value) (W : World) : Prop := R W ∧ Sits W g t (if (d k).isSome = true then B else A)
section
variable {k : Nat} {R : World → Prop} {g t : Nat} {A B : Array Value} {d : Nat → Option Value} {W W' : World}
theorem OneS.start (h : R W) (hs : Sits W g t A) : OneS k R g t A B (fun _ => none) W := ⟨h, hs⟩
theorem OneS.pure {m : Nat} (hk : m ≠ k) {v : Value} (h : OneS k R g t A B d W) : OneS k R g t A B (setv d m v) W := ⟨h.1, by rw [setv_other d v hk]; exact h.2⟩
theorem OneS.old (h : OneS k R g t A B d W) (hd : d k = none) : Sits W g t A := by
  have := h.2
  rwa [hd, if_neg (by simp)] at this
theorem OneS.store {v : Value} (h : R W') (hs : Sits W' g t B) : OneS k R g t A B (setv d k v) W' := ⟨h, by rw [setv_same, if_pos (by rfl)]; exact hs⟩
theorem OneS.done (h : OneS k R g t A B d W) (hk : (d k).isSome = true) : R W ∧ Sits W g t B := ⟨h.1, by have := h.2; rwa [if_pos hk] at this⟩
end
/-- Two operations make a block each, in whatever order; two others hand on their addresses. -/
structure TwoM (i j i' j' : Nat) (w0 : World) (ta tb : Nat) (A B : Array Value) (d : Nat → Option Value) (W : World) : Prop where
  low : Below w0.heap.size w0 W
  fst : ∀ x, d i = some x → ∃ p, x = .pointer (some ⟨p, 0, none⟩) ∧ Sits W p ta A ∧ w0.heap.size ≤ p
  snd : ∀ y, d j = some y → ∃ q, y = .pointer (some ⟨q, 0, none⟩) ∧ Sits W q tb B ∧ w0.heap.size ≤ q
  ne : ∀ x y, d i = some x → d j = some y → x ≠ y
  hi : ∀ x, d i' = some x → d i = some x
  hj : ∀ y, d j' = some y → d j = some y
section
variable {i j i' j' : Nat} {w0 W : World} {ta tb : Nat} {A B : Array Value} {d : Nat → Option Value}
theorem TwoM.start (h : Below w0.heap.size w0 W) : TwoM i j i' j' w0 ta tb A B (fun _ => none) W := ⟨h, (fun _ e => by cases e), (fun _ e => by cases e), (fun _ _ e => by cases e), (fun _ e => by cases e), (fun _ e => by cases e)⟩
theorem TwoM.pure {m : Nat} (h1 : m ≠ i) (h2 : m ≠ j) (h3 : m ≠ i') (h4 : m ≠ j') {v : Value} (h : TwoM i j i' j' w0 ta tb A B d W) : TwoM i j i' j' w0 ta tb A B (setv d m v) W := by
  refine ⟨h.low, ?_, ?_, ?_, ?_, ?_⟩
  · rw [setv_other d v h1]; exact h.fst
  · rw [setv_other d v h2]; exact h.snd
  · rw [setv_other d v h1, setv_other d v h2]; exact h.ne
  · rw [setv_other d v h3, setv_other d v h1]; exact h.hi
  · rw [setv_other d v h4, setv_other d v h2]; exact h.hj
theorem TwoM.one (h : TwoM i j i' j' w0 ta tb A B d W) (hd : d i = none) (hij : i ≠ j) (h3 : i ≠ i') (h4 : i ≠ j') : TwoM i j i' j' w0 ta tb A B (setv d i (.pointer (some ⟨W.heap.size, 0, none⟩))) (W.alloc (.cells A ta)) := by
  refine ⟨h.low.alloc h.low.size _, ?_, ?_, ?_, ?_, ?_⟩
  · rw [setv_same]
    rintro x ⟨⟩
    exact ⟨_, rfl, Sits.fresh W ta A, h.low.size⟩
  · rw [setv_other d _ hij]
    intro y hy
    obtain ⟨q, h1, h2, h3⟩ := h.snd y hy
    exact ⟨q, h1, h2.alloc _, h3⟩
  · rw [setv_same, setv_other d _ hij]
    rintro x y ⟨⟩ hy e
    obtain ⟨q, h1, h2, h3⟩ := h.snd y hy
    rw [h1] at e
    injection e with e
    injection e with e
    injection e with e
    have := h2.lt
    omega
  · rw [setv_other d _ h3, setv_same]
    intro x hx
    have := h.hi x hx
    rw [hd] at this
    cases this
  · rw [setv_other d _ h4, setv_other d _ hij]
    exact h.hj
theorem TwoM.swap (h : TwoM i j i' j' w0 ta tb A B d W) : TwoM j i j' i' w0 tb ta B A d W := ⟨h.low, h.snd, h.fst, fun x y h1 h2 e => h.ne y x h2 h1 e.symm, h.hj, h.hi⟩
theorem TwoM.two (h : TwoM i j i' j' w0 ta tb A B d W) (hd : d j = none) (hij : i ≠ j) (h3 : j ≠ i') (h4 : j ≠ j') : TwoM i j i' j' w0 ta tb A B (setv d j (.pointer (some ⟨W.heap.size, 0, none⟩))) (W.alloc (.cells B tb)) :=
  (h.swap.one hd (fun e => hij e.symm) h4 h3).swap
theorem TwoM.hand1 {v : Value} (h : TwoM i j i' j' w0 ta tb A B d W) (hv : d i = some v) (h1 : i' ≠ i) (h2 : i' ≠ j) (h3 : i' ≠ j') : TwoM i j i' j' w0 ta tb A B (setv d i' v) W := by
  refine ⟨h.low, ?_, ?_, ?_, ?_, ?_⟩
  · rw [setv_other d v h1]; exact h.fst
  · rw [setv_other d v h2]; exact h.snd
  · rw [setv_other d v h1, setv_other d v h2]; exact h.ne
  · rw [setv_same, setv_other d v h1]
    rintro x ⟨⟩
    exact hv
  · rw [setv_other d v h3, setv_other d v h2]; exact h.hj
theorem TwoM.hand2 {v : Value} (h : TwoM i j i' j' w0 ta tb A B d W) (hv : d j = some v) (h1 : j' ≠ i) (h2 : j' ≠ j) (h3 : j' ≠ i') : TwoM i j i' j' w0 ta tb A B (setv d j' v) W :=
  (h.swap.hand1 hv h2 h1 h3).swap
end
end Go.Proofs.Ytkfbljbhdjnggaa
