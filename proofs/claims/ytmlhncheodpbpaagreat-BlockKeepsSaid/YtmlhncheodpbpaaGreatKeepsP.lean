/- Of three things that are apart the first two may be told otherwise; what BlockKeeps finds where nothing was kept. -/
import Derived.Test.YtmlhncheodpbpaaGreatBlkK
namespace Go.Proofs.YtmlhncheodpbpaaGreat
open Go Go.RowKit SupP DskP RdkP
set_option maxRecDepth 100000
set_option maxHeartbeats 2000000
set_option linter.unusedSimpArgs false

theorem Has.assoc {A B C : (Nat → Prop) → World → Prop} {w0 w : World} (h : Has (Both (Both A B) C) w0 w) : Has (Both A (Both B C)) w0 w :=
  ⟨by
    obtain ⟨S1, S2, ⟨T1, T2, h1, h2, h3, h4⟩, h5, h6, h7⟩ := h.here
    exact ⟨T1, fun k => T2 k ∨ S2 k, h1, ⟨T2, S2, h2, h5, fun k a b => h6 k (h4 k (.inr a)) b, fun k hk => hk⟩, fun k a b => b.elim (fun e => h3 k a e) fun e => h6 k (h4 k (.inl a)) e, fun k hk => hk.elim (fun e => h7 k (.inl (h4 k (.inl e)))) fun e => e.elim (fun e => h7 k (.inl (h4 k (.inr e)))) fun e => h7 k (.inr e)⟩, h.below⟩
theorem keeps_both' (a b : Im) (ha : okI a = true) (hav : (a.v : Int) < 18446744073709551616) (hab : b.b = a.b) : getF b.b (secL b.b a.v (a.d.take 48) ++ secL b.b a.v (a.d.drop 48)) = (a, 0) := by
  rw [hab]
  exact keeps_both a ha hav
end Go.Proofs.YtmlhncheodpbpaaGreat
