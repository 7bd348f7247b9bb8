/- What lies in the blocks of a set, apart from what lies in those of another; and a call that turns one of the two. -/
import Derived.Test.YtbpcbdlmkoajdaaRows
import Derived.Test.YtbpcbdlmkoajdaaMany
namespace Go.Proofs.Ytbpcbdlmkoajdaa
open Go Go.RowKit
set_option maxRecDepth 100000

/-- What speaks of the blocks of a set alone. -/
structure Hold (A : (Nat → Prop) → World → Prop) : Prop where
  keep : ∀ {S : Nat → Prop} {w w' : World}, A S w → (∀ k, S k → k < w.heap.size → w'.heap[k]? = w.heap[k]?) → A S w'
  mono : ∀ {S S' : Nat → Prop} {w : World}, A S w → (∀ k, S k → S' k) → A S' w
  less : ∀ {S : Nat → Prop} {w : World}, A S w → A (fun k => S k ∧ k < w.heap.size) w
/-- Two things in blocks that are apart. -/
def Both (A B : (Nat → Prop) → World → Prop) (S : Nat → Prop) (w : World) : Prop := ∃ S1 S2 : Nat → Prop, A S1 w ∧ B S2 w ∧ (∀ k, S1 k → ¬ S2 k) ∧ ∀ k, S1 k ∨ S2 k → S k
theorem Hold.both {A B : (Nat → Prop) → World → Prop} (hA : Hold A) (hB : Hold B) : Hold (Both A B) where
  keep := fun ⟨S1, S2, h1, h2, h3, h4⟩ hk => ⟨S1, S2, hA.keep h1 fun k a b => hk k (h4 k (.inl a)) b, hB.keep h2 fun k a b => hk k (h4 k (.inr a)) b, h3, h4⟩
  mono := fun ⟨S1, S2, h1, h2, h3, h4⟩ hs => ⟨S1, S2, h1, h2, h3, fun k hk => hs k (h4 k hk)⟩
  less := fun ⟨_, _, h1, h2, h3, h4⟩ => ⟨_, _, hA.less h1, hB.less h2, fun k a b => h3 k a.1 b.1, fun k hk => hk.elim (fun e => ⟨h4 k (.inl e.1), e.2⟩) fun e => ⟨h4 k (.inr e.1), e.2⟩⟩
/-- What is there since the world w0, of which nothing has turned. -/
structure Has (A : (Nat → Prop) → World → Prop) (w0 w : World) : Prop where
  here : A (fun k => w0.heap.size ≤ k) w
  below : Below w0.heap.size w0 w
section
variable {A A' B B' : (Nat → Prop) → World → Prop} {w0 w w' : World}
theorem Has.down (hA : Hold A) (h : Has A w0 w) (hb : Below w.heap.size w w') : Has A w0 w' := ⟨hA.keep h.here fun k _ hk => hb.block k hk, h.below.trans (hb.mono h.below.size)⟩
theorem Has.new_ (h : Has A w0 w) : ∀ k, w.heap.size ≤ k → w0.heap.size ≤ k := fun _ hk => Nat.le_trans h.below.size hk
theorem Has.imp (h : Has A w0 w) (hi : ∀ S, A S w → A' S w) : Has A' w0 w := ⟨hi _ h.here, h.below⟩
theorem Has.fst (hA : Hold A) (h : Has (Both A B) w0 w) : Has A w0 w := ⟨by obtain ⟨S1, S2, h1, _, _, h4⟩ := h.here; exact hA.mono h1 fun k hk => h4 k (.inl hk), h.below⟩
theorem Has.snd (hB : Hold B) (h : Has (Both A B) w0 w) : Has B w0 w := ⟨by obtain ⟨S1, S2, _, h2, _, h4⟩ := h.here; exact hB.mono h2 fun k hk => h4 k (.inr hk), h.below⟩
/-- One more thing, made since then. -/
theorem Has.with_ (hA : Hold A) (h : Has A w0 w) (k : Has B w w') : Has (Both A B) w0 w' :=
  ⟨⟨_, _, hA.keep (hA.less h.here) fun i _ hi => k.below.block i hi, k.here, fun i a b => by have := a.2; omega, fun i hi => hi.elim (fun e => e.1) fun e => Nat.le_trans h.below.size e⟩, h.below.trans (k.below.mono h.below.size)⟩
end
/-- A call that turns what lies in a set's blocks, those and new ones alone. -/
def Turns (A A' : (Nat → Prop) → World → Prop) (F : FuncId) (args : Array Value) (r : Ending) : Prop :=
  ∀ (S : Nat → Prop) (w : World), (∀ k, w.heap.size ≤ k → S k) → A S w → Calls Try.prog F args w fun e w' => e = r ∧ A' S w' ∧ Many S w w'
section
variable {A A' B B' : (Nat → Prop) → World → Prop} {F : FuncId} {args : Array Value} {r : Ending} {w0 w : World}
theorem Turns.has (h : Turns A A' F args r) (k : Has A w0 w) : Calls Try.prog F args w fun e w' => e = r ∧ Has A' w0 w' :=
  (h _ w k.new_ k.here).mono fun _ _ ⟨he, ha, hm⟩ => ⟨he, ha, k.below.trans (hm.below (fun _ h => h) k.below.size)⟩
theorem Turns.left (hA : Hold A) (hB : Hold B) (h : Turns A A' F args r) : Turns (Both A B) (Both A' B) F args r := by
  intro S w hS hab
  obtain ⟨S1, S2, h1, h2, h3, h4⟩ := hab
  have h1' := hA.mono (hA.less h1) (S' := fun k => (S1 k ∧ k < w.heap.size) ∨ w.heap.size ≤ k) fun k hk => .inl hk
  have h2' := hB.less h2
  refine (h _ w (fun k hk => .inr hk) h1').mono ?_
  rintro e w' ⟨he, ha, hm⟩
  have hd : ∀ k, (S1 k ∧ k < w.heap.size) ∨ w.heap.size ≤ k → ¬ (S2 k ∧ k < w.heap.size) := fun k hk hn => hk.elim (fun e => h3 k e.1 hn.1) fun e => by have := hn.2; omega
  refine ⟨he, ⟨_, _, ha, hB.keep h2' fun k hk _ => hm.block k hk.2 fun e => hd k e hk, hd, ?_⟩, hm.mono fun k _ hk => ?_⟩
  · rintro k ((hk | hk) | hk)
    · exact h4 k (.inl hk.1)
    · exact hS k hk
    · exact h4 k (.inr hk.1)
  · rcases hk with hk | hk
    · exact h4 k (.inl hk.1)
    · exact hS k hk
theorem Both.swap {S : Nat → Prop} (h : Both A B S w) : Both B A S w := by
  obtain ⟨S1, S2, h1, h2, h3, h4⟩ := h
  exact ⟨S2, S1, h2, h1, fun k a b => h3 k b a, fun k hk => h4 k hk.symm⟩
theorem Turns.right (hA : Hold A) (hB : Hold B) (h : Turns B B' F args r) : Turns (Both A B) (Both A B') F args r := fun S w hS hab =>
  (Turns.left hB hA h S w hS hab.swap).mono fun _ _ ⟨he, hab, hm⟩ => ⟨he, hab.swap, hm⟩
end
end Go.Proofs.Ytbpcbdlmkoajdaa
