/- A slice that stands in another datum that came in (a field, an element), as a list. -/
import Derived.Test.YtkfbljbhdjnggaaInts
namespace Go.Proofs.Ytkfbljbhdjnggaa
open Go Go.RowKit Go.ChangeShapes Go.WideShapes Go.Deep
set_option maxRecDepth 100000
theorem slice_trod {α : Type} [Inhabited α] {k : Nat} {f : α → List Value} {good : α → Prop} {T e : TypeId} (hu : Try.prog.underlying T = some (.slice e)) (hk : Try.prog.cellsOf e = k) (hk0 : 0 < k)
    {H : Type} {enc : TypeId × Value → H} {w : World} {sp : Nat → Bool} {held : Bool} {fuel : Nat} {cs : List Value} {x : DataW H × List MemPlace}
    (hel : ∀ cs n x, DataW.trod enc Try.prog w 0 sp held n e cs = some x → cs.length = k → ∃ a, good a ∧ cs = f a)
    (h : DataW.trod enc Try.prog w 0 sp held fuel T cs = some x) : ∃ v, ∃ l : List α, cs = [v] ∧ (∀ x ∈ l, good x) ∧ SliceAt k f w v l := by
  rcases open_slice hu h with ⟨rfl, _⟩ | ⟨a, len, cap, m, n, D, Pl, rfl, hb, hl, hm, hmm, hx, hi⟩
  · exact ⟨_, [], rfl, by simp, SliceAt.nil k f w⟩
  · rw [hk] at hi
    have hcap : ((cap : Nat) : Int) ≤ 9223372036854775807 := by
      have : maxLen = 9223372036854775807 := by decide
      omega
    have hlm : len ≤ m := by rw [hmm]; split <;> omega
    rcases Nat.eq_zero_or_pos len with h0 | hpos
    · subst h0
      exact ⟨_, [], rfl, by simp, some a, cap, rfl, by simp, hcap, fun i h => by simp at h⟩
    · obtain ⟨b, o, spot⟩ := a
      have hsp : spot = none := by
        obtain ⟨cs, hc, _⟩ := hi 0 (by omega)
        have h1 := (World.cells?_some hc).2.2 0 (by omega)
        have hl := (World.cells?_some hc).2.1
        rw [List.getElem?_eq_getElem (by omega)] at h1
        simpa [Addr.add] using World.cell?_spot h1
      subst hsp
      have hall : ∀ i, i < len → ∃ x : α, good x ∧ b < w.heap.size ∧ ∀ j u, (f x)[j]? = some u → w.cell? ⟨b, o + i * k + j, none⟩ = some u := fun i hlt => by
        obtain ⟨cs, hc, ht⟩ := hi i (by omega)
        obtain ⟨_, hlen, hat⟩ := World.cells?_some hc
        obtain ⟨x, hg, rfl⟩ := hel cs _ _ ht hlen
        have hat' : ∀ j u, (f x)[j]? = some u → w.cell? ⟨b, o + i * k + j, none⟩ = some u := by
          intro j u hu
          have hj : j < k := by
            have := (List.getElem?_eq_some_iff.1 hu).1
            omega
          have := hat j hj
          rw [add_add, Go.WideShapes.add_plain, hu] at this
          rw [Nat.add_assoc]
          exact this
        have h0 := hat' 0 (f x)[0] (List.getElem?_eq_getElem (by omega))
        exact ⟨x, hg, World.block_lt_of_cell? _ _ h0, hat'⟩
      obtain ⟨g, hg⟩ := choose_lt hall
      refine ⟨_, (List.range len).map g, rfl, ?_, some ⟨b, o, none⟩, cap, by simp, by simpa using hl, hcap, fun i h => ?_⟩
      · intro x hx
        obtain ⟨i, hi, rfl⟩ := List.mem_map.1 hx
        exact (hg i (List.mem_range.1 hi)).1
      · have hlt : i < len := by simpa using h
        obtain ⟨g1, g2, g3⟩ := hg i hlt
        simp only [List.getElem_map, List.getElem_range]
        exact ⟨b, o, rfl, g2, g3⟩
theorem ints_trod {H : Type} {enc : TypeId × Value → H} {w : World} {sp : Nat → Bool} {held : Bool} {fuel : Nat} {cs : List Value} {x : DataW H × List MemPlace}
    (h : DataW.trod enc Try.prog w 0 sp held fuel 57 cs = some x) : ∃ v, ∃ l : List Int, cs = [v] ∧ (∀ x ∈ l, i64ok x) ∧ Ints w v l :=
  slice_trod Try.underlying57 (by kernel_rfl) (by omega) (fun cs n x ht hl => by
    obtain ⟨s, e, _, hs⟩ := DataW.trod_int Try.underlying3 ht
    exact ⟨s, by have := bounds_i64 hs; unfold i64ok; omega, e⟩) h
end Go.Proofs.Ytkfbljbhdjnggaa
