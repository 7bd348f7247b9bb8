/- The statements' own lists with room behind them, in which a mark stands (commonsbook's Lent and Stays), and lists that are alike. -/
import Derived.Test.YtkfbljbhdjnggaaRow
import Derived.Test.YtkfbljbhdjnggaaAppend
import Derived.Test.YtkfbljbhdjnggaaSameT
import Derived.BigQuiet
namespace Go.Proofs.Ytkfbljbhdjnggaa
open Go Go.RowKit
set_option maxRecDepth 100000
set_option maxHeartbeats 1000000

theorem text_one (l : List (List UInt8)) : ∀ u ∈ l.map (fun s => Value.string (str s)), u.oneCell' = true := by
  intro u hu
  obtain ⟨s, _, rfl⟩ := List.mem_map.1 hu
  rfl
/-- A list with room behind it, in which a mark stands: it lies in a block of its own. -/
def Lent (w : World) (base : Nat) (v : Value) (n : Nat) (xs : List Value) (mark : List Value) : Prop :=
  ∃ g cap, v = .slice (some ⟨g, 0, none⟩) n cap ∧ n + 1 ≤ cap ∧ (cap : Int) ≤ 9223372036854775807 ∧ base ≤ g ∧ g < w.heap.size ∧ ∀ j u, (xs ++ mark)[j]? = some u → w.cell? ⟨g, j, none⟩ = some u
theorem Lent.below {w w' : World} {base : Nat} {v : Value} {n : Nat} {xs mark : List Value} (h : Lent w base v n xs mark) (hb : Below w.heap.size w w') : Lent w' base v n xs mark := by
  obtain ⟨g, cap, e1, h1, h2, h3, h4, h5⟩ := h
  exact ⟨g, cap, e1, h1, h2, h3, Nat.lt_of_lt_of_le h4 hb.size, fun j u hu => (hb.cell h4).trans (h5 j u hu)⟩
end Go.Proofs.Ytkfbljbhdjnggaa
