/- The parts of a map within a span: which they are. -/
import Derived.Test.YtfbpmkecfmkffaaGreatPartS
import Derived.Test.YtfbpmkecfmkffaaGreatGA
namespace Go.Proofs.YtfbpmkecfmkffaaGreat
open Go SpanP PartP ImapP

theorem within_mem {s : S} : ∀ {l : List Pt} {t : Pt}, t ∈ within s l ↔ ∃ x ∈ l, meet x.1 s = some t.1 ∧ x.2 = t.2
  | [], t => by simp [within]
  | x :: l, t => by
    rw [within, List.mem_append, within_mem]
    constructor
    · rintro (h | ⟨y, hy, h1, h2⟩)
      · cases hm : meet x.1 s with
        | none => rw [hm] at h; simp at h
        | some m =>
          rw [hm] at h
          simp only [List.mem_singleton] at h
          subst h
          exact ⟨x, List.mem_cons_self, hm, rfl⟩
      · exact ⟨y, List.mem_cons_of_mem _ hy, h1, h2⟩
    · rintro ⟨y, hy, h1, h2⟩
      rcases List.mem_cons.1 hy with rfl | hy
      · left
        rw [h1]
        simp only [List.mem_singleton]
        rw [h2]
      · exact .inr ⟨y, hy, h1, h2⟩
theorem within_up {s : S} : ∀ {l : List Pt}, PNorm l → (within s l).Pairwise fun x y => x.1.2 ≤ y.1.1 ∧ (x.1.2 = y.1.1 → x.2 ≠ y.2)
  | [], _ => List.Pairwise.nil
  | x :: l, h => by
    rw [within]
    refine List.pairwise_append.2 ⟨?_, within_up h.tail, fun a ha b hb => ?_⟩
    · cases meet x.1 s <;> simp
    · obtain ⟨y, hy, h1, h2⟩ := within_mem.1 hb
      cases hm : meet x.1 s with
      | none => rw [hm] at ha; simp at ha
      | some m =>
        rw [hm] at ha
        simp only [List.mem_singleton] at ha
        subst ha
        obtain ⟨h3, h4⟩ := (List.pairwise_cons.1 h.up).1 y hy
        obtain ⟨-, e1, -⟩ := meet_some hm
        obtain ⟨-, e2, -⟩ := meet_some h1
        have g1 : m.2 ≤ x.1.2 := by rw [e1]; exact Int.min_le_left _ _
        have g2 : y.1.1 ≤ b.1.1 := by rw [e2]; exact Int.le_max_left _ _
        simp only
        refine ⟨by omega, fun e => ?_⟩
        rw [← h2]
        exact h4 (by omega)
theorem within_map {s : S} {l : List Pt} (h : PNorm l) : MapOf (within s l) fun b v => Val l b v ∧ Has s b := by
  refine ⟨⟨fun t ht => ?_, within_up h⟩, fun b v => ⟨?_, ?_⟩⟩
  · obtain ⟨x, _, h1, _⟩ := within_mem.1 ht
    exact (meet_some h1).1
  · rintro ⟨t, ht, hb, hv⟩
    obtain ⟨x, hx, h1, h2⟩ := within_mem.1 ht
    have := ((meet_some h1).2.2 b).1 hb
    exact ⟨⟨x, hx, this.1, h2.trans hv⟩, this.2⟩
  · rintro ⟨⟨x, hx, hb, hv⟩, hs⟩
    cases hm : meet x.1 s with
    | none => exact absurd ⟨hb, hs⟩ (meet_none hm b)
    | some m => exact ⟨(m, x.2), within_mem.2 ⟨x, hx, hm, rfl⟩, ((meet_some hm).2.2 b).2 ⟨hb, hs⟩, hv⟩
theorem within_parts {s : S} {l : List Pt} {i j : Nat} (hn : Ok s → Near s l i j) (h : PNorm l) : within s l = partsV s l i j :=
  (within_map h).eq (partsV_map hn h) fun _ _ => Iff.rfl
end Go.Proofs.YtfbpmkecfmkffaaGreat
