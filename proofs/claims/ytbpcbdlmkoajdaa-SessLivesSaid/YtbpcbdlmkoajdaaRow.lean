/- Slices that come in, as lists: what their cells hold, how they are opened, and that they stay where nothing old turns. -/
import Derived.Test.YtbpcbdlmkoajdaaBase
import Derived.Test.YtbpcbdlmkoajdaaKit
import Derived.Test.YtbpcbdlmkoajdaaNum
import Derived.Deep.Slices
namespace Go.Proofs.Ytbpcbdlmkoajdaa
open Go Go.RowKit Go.ChangeShapes Go.WideShapes Go.Deep
set_option maxRecDepth 100000

/-- The value v is a slice of the list l, each element being the k cells that f tells. -/
def SliceAt {α : Type} (k : Nat) (f : α → List Value) (w : World) (v : Value) (l : List α) : Prop :=
  ∃ A cap, v = .slice A l.length cap ∧ l.length ≤ cap ∧ (cap : Int) ≤ 9223372036854775807 ∧
    ∀ i (h : i < l.length), ∃ b o, A = some ⟨b, o, none⟩ ∧ b < w.heap.size ∧ ∀ j u, (f l[i])[j]? = some u → w.cell? ⟨b, o + i * k + j, none⟩ = some u
theorem SliceAt.nil {α : Type} (k : Nat) (f : α → List Value) (w : World) : SliceAt k f w (.slice none 0 0) [] :=
  ⟨none, 0, rfl, Nat.le_refl _, by omega, fun i h => by simp at h⟩
theorem SliceAt.keep {α : Type} {k : Nat} {f : α → List Value} {w w' : World} {v : Value} {l : List α} (h : SliceAt k f w v l) (hs : w.heap.size ≤ w'.heap.size)
    (hb : ∀ p : Addr, p.block < w.heap.size → w'.cell? p = w.cell? p) : SliceAt k f w' v l := by
  obtain ⟨A, cap, e, h1, h2, h3⟩ := h
  refine ⟨A, cap, e, h1, h2, fun i hi => ?_⟩
  obtain ⟨b, o, rfl, hlt, hc⟩ := h3 i hi
  exact ⟨b, o, rfl, Nat.lt_of_lt_of_le hlt hs, fun j u hu => (hb _ hlt).trans (hc j u hu)⟩
theorem SliceAt.below {α : Type} {k : Nat} {f : α → List Value} {w w' : World} {v : Value} {l : List α} (h : SliceAt k f w v l) (hb : Below w.heap.size w w') : SliceAt k f w' v l :=
  h.keep hb.size fun _ hp => hb.cell hp
theorem SliceAt.len {α : Type} {k : Nat} {f : α → List Value} {w : World} {v : Value} {l : List α} (h : SliceAt k f w v l) : (l.length : Int) ≤ 9223372036854775807 := by
  obtain ⟨A, cap, _, h1, h2, _⟩ := h
  omega
theorem slice_open {α : Type} [Inhabited α] {k : Nat} {f : α → List Value} {good : α → Prop} {T e : TypeId} (hu : Try.prog.underlying T = some (.slice e)) (hk : Try.prog.cellsOf e = k) (hk0 : 0 < k)
    {H : Type} {enc : TypeId × Value → H} {w : World} {base : Nat} {r : Reach} {v : Value} {d : DataW H} {p : List MemPlace}
    (hel : ∀ (cs : List Value) n sp held x, DataW.trod enc Try.prog w 0 sp held n e cs = some x → cs.length = k → ∃ a, good a ∧ cs = f a)
    (hv : Value.okWide Try.prog w r base T v) (h : DataW.Trod enc Try.prog w 0 (fun _ => true) true T v d p) : ∃ l : List α, (∀ x ∈ l, good x) ∧ SliceAt k f w v l := by
  obtain ⟨a0, len, cap, rfl⟩ := okWide_slice hu hv
  obtain ⟨fuel, hf⟩ := h
  rcases open_slice hu hf with ⟨hcs, _⟩ | ⟨a, len', cap', m, n, D, Pl, hcs, hb, hl, hm, hmm, hx, hi⟩
  · simp [Value.cells] at hcs
    obtain ⟨rfl, rfl, rfl⟩ := hcs
    exact ⟨[], by simp, SliceAt.nil k f w⟩
  · simp [Value.cells] at hcs
    obtain ⟨rfl, rfl, rfl⟩ := hcs
    simp only [if_true] at hmm
    subst hmm
    rw [hk] at hi
    have hcap : ((m : Nat) : Int) ≤ 9223372036854775807 := by
      have : maxLen = 9223372036854775807 := by decide
      omega
    rcases Nat.eq_zero_or_pos len with h0 | hpos
    · subst h0
      exact ⟨[], by simp, some a, m, rfl, hl, hcap, fun i h => by simp at h⟩
    · obtain ⟨b, o, spot⟩ := a
      have hsp : spot = none := by
        obtain ⟨cs, hc, _⟩ := hi 0 (by omega)
        have h1 := (World.cells?_some hc).2.2 0 (by omega)
        have hl := (World.cells?_some hc).2.1
        rw [List.getElem?_eq_getElem (by omega)] at h1
        simpa [Addr.add] using World.cell?_spot h1
      subst hsp
      have hall : ∀ i, i < len → ∃ x : α, good x ∧ b < w.heap.size ∧ ∀ j u, (f x)[j]? = some u → w.cell? ⟨b, o + i * k + j, none⟩ = some u := fun i hlt => by
        obtain ⟨cs, hc, ht⟩ := hi i (by omega)
        obtain ⟨_, hlen, hat⟩ := World.cells?_some hc
        obtain ⟨x, hg, rfl⟩ := hel cs _ _ _ _ ht hlen
        have hat' : ∀ j u, (f x)[j]? = some u → w.cell? ⟨b, o + i * k + j, none⟩ = some u := by
          intro j u hu
          have hj : j < k := by
            have := (List.getElem?_eq_some_iff.1 hu).1
            omega
          have := hat j hj
          rw [add_add, Go.WideShapes.add_plain, hu] at this
          rw [Nat.add_assoc]
          exact this
        have h0 := hat' 0 (f x)[0] (List.getElem?_eq_getElem (by omega))
        exact ⟨x, hg, World.block_lt_of_cell? _ _ h0, hat'⟩
      obtain ⟨g, hg⟩ := choose_lt hall
      refine ⟨(List.range len).map g, ?_, some ⟨b, o, none⟩, m, by simp, by simpa using hl, hcap, fun i h => ?_⟩
      · intro x hx
        obtain ⟨i, hi, rfl⟩ := List.mem_map.1 hx
        exact (hg i (List.mem_range.1 hi)).1
      · have hlt : i < len := by simpa using h
        obtain ⟨g1, g2, g3⟩ := hg i hlt
        simp only [List.getElem_map, List.getElem_range]
        exact ⟨b, o, rfl, g2, g3⟩

def textCells (s : List UInt8) : List Value := [.string (str s)]
/-- A slice of texts. -/
abbrev Texts := SliceAt 1 textCells
theorem Texts.at_ {w : World} {v : Value} {l : List (List UInt8)} (h : Texts w v l) : ∃ A cap, v = .slice A l.length cap ∧ l.length ≤ cap ∧ (cap : Int) ≤ 9223372036854775807 ∧
    ∀ i (hi : i < l.length), ∃ b o, A = some ⟨b, o, none⟩ ∧ b < w.heap.size ∧ w.cell? ⟨b, o + i, none⟩ = some (.string (str l[i])) := by
  obtain ⟨A, cap, e, h1, h2, h3⟩ := h
  refine ⟨A, cap, e, h1, h2, fun i hi => ?_⟩
  obtain ⟨b, o, rfl, hlt, hc⟩ := h3 i hi
  have := hc 0 _ rfl
  rw [Nat.mul_one, Nat.add_zero] at this
  exact ⟨b, o, rfl, hlt, this⟩
theorem Texts.mk_ {w : World} {A : Option Addr} {cap : Nat} {l : List (List UInt8)} (h1 : l.length ≤ cap) (h2 : (cap : Int) ≤ 9223372036854775807)
    (h : ∀ i (_ : i < l.length), ∃ b o, A = some ⟨b, o, none⟩ ∧ b < w.heap.size ∧ w.cell? ⟨b, o + i, none⟩ = some (.string (str l[i]))) : Texts w (.slice A l.length cap) l := by
  refine ⟨A, cap, rfl, h1, h2, fun i hi => ?_⟩
  obtain ⟨b, o, rfl, hlt, hc⟩ := h i hi
  refine ⟨b, o, rfl, hlt, fun j u hu => ?_⟩
  rcases j with _ | j
  · simp only [textCells, List.getElem?_cons_zero, Option.some.injEq] at hu
    subst hu
    rw [Nat.mul_one, Nat.add_zero]
    exact hc
  · simp [textCells] at hu
theorem texts_open {H : Type} {enc : TypeId × Value → H} {w : World} {base : Nat} {r : Reach} {v : Value} {d : DataW H} {p : List MemPlace} (hv : Value.okWide Try.prog w r base 27 v)
    (h : DataW.Trod enc Try.prog w 0 (fun _ => true) true 27 v d p) : ∃ l : List (List UInt8), (∀ s ∈ l, (s.length : Int) ≤ 9223372036854775807) ∧ Texts w v l :=
  slice_open Try.underlying27 (by kernel_rfl) (by omega) (fun cs n sp held x ht hl => by
    obtain ⟨s, e, _, hs⟩ := DataW.trod_string Try.underlying9 ht
    subst e
    refine ⟨s.data.toList, ?_, by rw [textCells, str_of]⟩
    have : maxLen = 9223372036854775807 := by decide
    rw [list_size]
    omega) hv h
end Go.Proofs.Ytbpcbdlmkoajdaa
