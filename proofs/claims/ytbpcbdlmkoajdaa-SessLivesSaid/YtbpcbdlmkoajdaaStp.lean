/- What stands in a set's blocks turns there and in new blocks alone, in whatever way; rows as such things. -/
import Derived.Test.YtbpcbdlmkoajdaaHold
import Derived.Test.YtbpcbdlmkoajdaaRowAt
namespace Go.Proofs.Ytbpcbdlmkoajdaa
open Go Go.RowKit
set_option maxRecDepth 100000

/-- From w to w' what B says has turned to what B' says, in the same blocks and new ones; no other block has turned. -/
def Steps (B B' : (Nat → Prop) → World → Prop) (w w' : World) : Prop :=
  ∀ S : Nat → Prop, (∀ k, S k → k < w.heap.size) → B S w → ∃ T : Nat → Prop, (∀ k, T k → S k ∨ w.heap.size ≤ k) ∧ B' T w' ∧ Many S w w'
section
variable {A A' B B' C : (Nat → Prop) → World → Prop} {w0 w w' : World}
theorem Steps.left (hB : Hold B) (hC : Hold C) (h : Steps B B' w w') : Steps (Both B C) (Both B' C) w w' := by
  rintro S _ ⟨S1, S2, h1, h2, h3, h4⟩
  obtain ⟨T, ht, hb, hm⟩ := h (fun k => S1 k ∧ k < w.heap.size) (fun k hk => hk.2) (hB.less h1)
  refine ⟨fun k => T k ∨ (S2 k ∧ k < w.heap.size), fun k hk => ?_, ⟨T, _, hb, hC.keep (hC.less h2) fun k hk _ => hm.block k hk.2 fun e => h3 k e.1 hk.1, fun k a b => ?_, fun k hk => hk⟩, hm.mono fun k _ hk => h4 k (.inl hk.1)⟩
  · rcases hk with hk | hk
    · exact (ht k hk).imp_left fun e => h4 k (.inl e.1)
    · exact .inl (h4 k (.inr hk.1))
  · rcases ht k a with e | e
    · exact h3 k e.1 b.1
    · have := b.2
      omega
theorem Steps.right (hB : Hold B) (hC : Hold C) (h : Steps C A' w w') : Steps (Both B C) (Both B A') w w' := fun S hS hbc => by
  obtain ⟨T, h1, h2, h3⟩ := Steps.left hC hB h S hS hbc.swap
  exact ⟨T, h1, h2.swap, h3⟩
theorem Has.steps (hB : Hold B) (hB' : Hold B') (h : Has B w0 w) (hs : Steps B B' w w') : Has B' w0 w' := by
  obtain ⟨T, h1, h2, h3⟩ := hs _ (fun k hk => hk.2) (hB.less h.here)
  exact ⟨hB'.mono h2 fun k hk => (h1 k hk).elim (fun e => e.1) fun e => Nat.le_trans h.below.size e, h.below.trans (h3.below (fun k hk => hk.1) h.below.size)⟩
theorem Steps.down (hB : Hold B) (h : Below w.heap.size w w') : Steps B B w w' := fun S _ hb => ⟨S, fun _ hk => .inl hk, hB.keep hb fun k _ hk => h.block k hk, Many.of_below S h⟩
end
/-- A row of cells, its block in S. -/
def RwX (e : TypeId) (size : Nat) (v : Value) (n : Nat) (xs : List Value) (S : Nat → Prop) (w : World) : Prop := RowAt w 0 e size v n xs ∧ ∀ b, v.ownBlock = some b → S b
theorem holdRwX (e : TypeId) (size : Nat) (v : Value) (n : Nat) (xs : List Value) : Hold (RwX e size v n xs) where
  keep := fun ⟨h1, h2⟩ hk => ⟨h1.keep fun b hb => hk b (h2 b hb) (h1.lt b hb).2, h2⟩
  mono := fun ⟨h1, h2⟩ hs => ⟨h1, fun b hb => hs b (h2 b hb)⟩
  less := fun ⟨h1, h2⟩ => ⟨h1, fun b hb => ⟨h2 b hb, (h1.lt b hb).2⟩⟩
theorem has_none {e : TypeId} {size : Nat} {w : World} : Has (RwX e size (.slice none 0 0) 0 []) w w := ⟨⟨RowAt.nil _ _ _ _, fun b hb => by simp [Value.ownBlock] at hb⟩, Below.refl _ _⟩
/-- A new row takes the place of one that is there. -/
theorem rwX_new {e : TypeId} {size : Nat} {v v' : Value} {n n' : Nat} {xs xs' : List Value} {w w' : World} (hb : Below w.heap.size w w') (hr : RowAt w' w.heap.size e size v' n' xs') : Steps (RwX e size v n xs) (RwX e size v' n' xs') w w' :=
  fun S _ _ => ⟨fun k => w.heap.size ≤ k, fun _ hk => .inr hk, ⟨hr.mono (Nat.zero_le _), fun b hb => (hr.lt b hb).1⟩, Many.of_below S hb⟩
/-- append onto a row, in a world in which new things may have been made since w. -/
theorem rwX_app {t tx e : TypeId} {z : Value} {size bytes : Nat} (he : Elem Try.prog t e z size bytes) {S0 : Nat → Prop} {v : Value} {n : Nat} {xs : List Value} {w w1 : World} (h : RwX e size v n xs S0 w) (hb : Below w.heap.size w w1)
    {x : Value} {m : Nat} {news : List Value} (hs : Src Try.prog size tx x m news w1) (ty : TypeId) (hm : n + m ≤ maxLen) (hbt : (n + m) * bytes ≤ 140737488355328) :
    ∃ v' W', (Builtin.append_ #[t, tx] ty #[v, x]).run Try.prog w1 = .ok v' W' ∧ RowAt W' 0 e size v' (n + m) (xs ++ news) ∧ Steps (RwX e size v n xs) (RwX e size v' (n + m) (xs ++ news)) w W' := by
  obtain ⟨v', W', hr, row, gr, at3⟩ := appendAt_src he (h.1.below hb) hs ty hm hbt (Nat.zero_le _)
  refine ⟨v', W', hr, row, fun S hS hx => ⟨fun k => S k ∨ w.heap.size ≤ k, fun k hk => hk, ⟨row, fun b hb' => ?_⟩, ((Many.refl S w).then hb).grown gr hx.2⟩⟩
  rcases at3 with e' | e'
  · exact .inl (hx.2 b (e' ▸ hb'))
  · rw [hb'] at e'
    injection e' with e'
    have := hb.size
    exact .inr (by omega)
end Go.Proofs.Ytbpcbdlmkoajdaa
