/- Slices of ints and of bools that come in, as lists; lists of ints that are alike (commonsbook's SameInts). -/
import Derived.Test.YtbgogbelnipfdaaRow
import Derived.BigQuiet
namespace Go.Proofs.Ytbgogbelnipfdaa
open Go Go.RowKit Go.ChangeShapes Go.WideShapes
set_option maxRecDepth 100000
set_option maxHeartbeats 1000000

/-- A slice of ints. -/
abbrev Ints := SliceAt 1 (fun x : Int => [Value.int .i64 x])
def i64ok (x : Int) : Prop := -9223372036854775808 ≤ x ∧ x ≤ 9223372036854775807
theorem ints_open {H : Type} {enc : TypeId × Value → H} {w : World} {base : Nat} {r : Reach} {v : Value} {d : DataW H} {p : List MemPlace} (hv : Value.okWide Try.prog w r base 22 v)
    (h : DataW.Trod enc Try.prog w 0 (fun _ => true) true 22 v d p) : ∃ l : List Int, (∀ x ∈ l, i64ok x) ∧ Ints w v l :=
  slice_open Try.underlying22 (by kernel_rfl) (by omega) (fun cs n sp held x ht hl => by
    obtain ⟨s, e, _, hs⟩ := DataW.trod_int Try.underlying3 ht
    exact ⟨s, by have := bounds_i64 hs; unfold i64ok; omega, e⟩) hv h
theorem SliceAt.one_ {α : Type} {f : α → Value} {w : World} {v : Value} {l : List α} (h : SliceAt 1 (fun x => [f x]) w v l) : ∃ A cap, v = .slice A l.length cap ∧ l.length ≤ cap ∧ (cap : Int) ≤ 9223372036854775807 ∧
    ∀ i (hi : i < l.length), ∃ b o, A = some ⟨b, o, none⟩ ∧ b < w.heap.size ∧ w.cell? ⟨b, o + i, none⟩ = some (f l[i]) := by
  obtain ⟨A, cap, e, h1, h2, h3⟩ := h
  refine ⟨A, cap, e, h1, h2, fun i hi => ?_⟩
  obtain ⟨b, o, rfl, hlt, hc⟩ := h3 i hi
  have := hc 0 _ rfl
  rw [Nat.mul_one, Nat.add_zero] at this
  exact ⟨b, o, rfl, hlt, this⟩
end Go.Proofs.Ytbgogbelnipfdaa
