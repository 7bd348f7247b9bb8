/- What a cache tells, cut at a key, and at what goes; keys that are held. -/
import Derived.Test.YtegmefchfphphaaLruP
import Derived.Handy
namespace Go.Proofs.Ytegmefchfphphaa
open LruP

section
variable {κ β : Type}
theorem cut_key [DecidableEq κ] (T : List (Slot κ β)) (y : κ) : (∃ A s B, T = A ++ s :: B ∧ s.k = y) ∨ ∀ s ∈ T, s.k ≠ y := by
  by_cases h : ∃ s ∈ T, s.k = y
  · obtain ⟨s, hs, hk⟩ := h
    obtain ⟨A, B, hT⟩ := List.append_of_mem hs
    exact .inl ⟨A, s, B, hT, hk⟩
  · exact .inr fun s hs hk => h ⟨s, hs, hk⟩
theorem cut_free : ∀ T : List (Slot κ β), (∀ s ∈ T, 0 ≤ s.pins) → (∃ A s B, T = A ++ s :: B ∧ s.pins = 0 ∧ ∀ f ∈ B, 0 < f.pins) ∨ ∀ s ∈ T, 0 < s.pins
  | [], _ => .inr (by simp)
  | t :: T, h => by
    rcases cut_free T fun s hs => h s (List.mem_cons_of_mem _ hs) with ⟨A, s, B, rfl, h1, h2⟩ | h1
    · exact .inl ⟨t :: A, s, B, rfl, h1, h2⟩
    · have h0 := h t List.mem_cons_self
      rcases Int.lt_or_eq_of_le h0 with h2 | h2
      · exact .inr fun s hs => by
          rcases List.mem_cons.1 hs with rfl | hs
          · exact h2
          · exact h1 s hs
      · exact .inl ⟨[], t, T, rfl, h2.symm, h1⟩
/-- Each key of hs is there, with a pin; none has more than b. -/
structure Held (b : Int) (T : List (Slot κ β)) (hs : List κ) : Prop where
  pins : ∀ s ∈ T, 0 ≤ s.pins ∧ s.pins ≤ b
  held : ∀ h ∈ hs, ∃ s ∈ T, s.k = h ∧ 0 < s.pins
variable {b : Int} {T A B : List (Slot κ β)} {s : Slot κ β} {hs : List κ}
theorem Held.put (h : Held b (A ++ s :: B) hs) (v : β) : Held b ((⟨s.k, v, s.pins⟩ : Slot κ β) :: (A ++ B)) hs := by
  refine ⟨fun t ht => ?_, fun x hx => ?_⟩
  · rcases List.mem_cons.1 ht with rfl | ht
    · exact h.pins s (by simp)
    · rcases List.mem_append.1 ht with ht | ht
      · exact h.pins t (by simp [ht])
      · exact h.pins t (by simp [ht])
  · obtain ⟨t, ht, h1, h2⟩ := h.held x hx
    rcases List.mem_append.1 ht with ht | ht
    · exact ⟨t, by simp [ht], h1, h2⟩
    · rcases List.mem_cons.1 ht with rfl | ht
      · exact ⟨_, List.mem_cons_self, h1, h2⟩
      · exact ⟨t, by simp [ht], h1, h2⟩
theorem Held.room (h : Held b T hs) (hb : 0 ≤ b) (k : κ) (v : β) : Held b ((⟨k, v, 0⟩ : Slot κ β) :: T) hs := by
  refine ⟨fun t ht => ?_, fun x hx => ?_⟩
  · rcases List.mem_cons.1 ht with rfl | ht
    · exact ⟨Int.le_refl 0, hb⟩
    · exact h.pins t ht
  · obtain ⟨t, ht, h1, h2⟩ := h.held x hx
    exact ⟨t, List.mem_cons_of_mem _ ht, h1, h2⟩
theorem Held.goes (h : Held b (A ++ s :: B) hs) (hs0 : s.pins = 0) : Held b (A ++ B) hs := by
  refine ⟨fun t ht => ?_, fun x hx => ?_⟩
  · rcases List.mem_append.1 ht with ht | ht
    · exact h.pins t (by simp [ht])
    · exact h.pins t (by simp [ht])
  · obtain ⟨t, ht, h1, h2⟩ := h.held x hx
    rcases List.mem_append.1 ht with ht | ht
    · exact ⟨t, by simp [ht], h1, h2⟩
    · rcases List.mem_cons.1 ht with rfl | ht
      · omega
      · exact ⟨t, by simp [ht], h1, h2⟩
theorem Held.pin (h : Held b (s :: T) hs) : Held (b + 1) ({ s with pins := s.pins + 1 } :: T) (hs ++ [s.k]) := by
  have h0 := h.pins s List.mem_cons_self
  refine ⟨fun t ht => ?_, fun x hx => ?_⟩
  · rcases List.mem_cons.1 ht with rfl | ht
    · simp only; omega
    · have := h.pins t (List.mem_cons_of_mem _ ht); omega
  · rcases List.mem_append.1 hx with hx | hx
    · obtain ⟨t, ht, h1, h2⟩ := h.held x hx
      rcases List.mem_cons.1 ht with rfl | ht
      · exact ⟨_, List.mem_cons_self, h1, by simp only; omega⟩
      · exact ⟨t, List.mem_cons_of_mem _ ht, h1, h2⟩
    · rw [List.mem_singleton] at hx
      exact ⟨_, List.mem_cons_self, hx.symm, by simp only; omega⟩
end
end Go.Proofs.Ytegmefchfphphaa
