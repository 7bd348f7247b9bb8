/- ImapPlays, in plain words: a swap, part by part, comes to the same map as a swap in one. -/
import Derived.Test.YtfbpmkecfmkffaaGreatPartW
import Derived.Test.YtfbpmkecfmkffaaGreatPartF
import Derived.Test.YtfbpmkecfmkffaaGreatImapG
namespace Go.Proofs.YtfbpmkecfmkffaaGreat
open SpanP PartP ImapP
set_option linter.unusedSimpArgs false

/-- Behind k parts of what a span has. -/
def Mid7 (l P : List Pt) (v u : Int) (k : Nat) (b x : Int) : Prop := (In (withV v (P.take k)) b ∧ x = u) ∨ (Val l b x ∧ ¬ In (withV v (P.take k)) b)
theorem mid7_start {l P : List Pt} (hl : PNorm l) (v u : Int) : MapOf l (Mid7 l P v u 0) :=
  ⟨hl, fun b x => by
    have : ¬ In (withV v (P.take 0)) b := by rw [List.take_zero]; exact not_in_nil b
    unfold Mid7
    exact ⟨fun h => .inr ⟨h, this⟩, fun h => h.elim (fun h => absurd h.1 this) (·.1)⟩⟩
theorem mid7_skip {l P m : List Pt} {v u : Int} {k : Nat} (hk : k < P.length) (h : MapOf m (Mid7 l P v u k)) (hv : P[k].2 ≠ v) : MapOf m (Mid7 l P v u (k + 1)) := by
  have e : withV v (P.take (k + 1)) = withV v (P.take k) := by rw [withV_take hk, if_neg hv, List.append_nil]
  exact h.iff fun b x => by unfold Mid7; rw [e]
theorem mid7_set {l P m m' : List Pt} {v u : Int} {k : Nat} (hk : k < P.length) (h : MapOf m (Mid7 l P v u k)) (hv : P[k].2 = v) (h' : MapOf m' fun b x => (Has P[k].1 b ∧ u = x) ∨ (Val m b x ∧ ¬ Has P[k].1 b)) : MapOf m' (Mid7 l P v u (k + 1)) := by
  have e : ∀ b, In (withV v (P.take (k + 1))) b ↔ In (withV v (P.take k)) b ∨ Has P[k].1 b := fun b => by
    rw [withV_in, List.take_succ_eq_append_getElem hk, val_append, val_one, withV_in]
    simp [hv]
  refine h'.iff fun b x => ?_
  rw [h.val b x]
  unfold Mid7
  rw [e b]
  constructor
  · rintro (⟨h1, rfl⟩ | ⟨⟨h1, h2⟩ | ⟨h1, h2⟩, h3⟩)
    · exact .inl ⟨.inr h1, rfl⟩
    · exact .inl ⟨.inl h1, h2⟩
    · exact .inr ⟨h1, fun h => h.elim h2 h3⟩
  · rintro (⟨h1 | h1, rfl⟩ | ⟨h1, h2⟩)
    · by_cases hb : Has P[k].1 b
      · exact .inl ⟨hb, rfl⟩
      · exact .inr ⟨.inl ⟨h1, rfl⟩, hb⟩
    · exact .inl ⟨h1, rfl⟩
    · exact .inr ⟨.inr ⟨h1, fun h => h2 (.inl h)⟩, fun h => h2 (.inr h)⟩
/-- All parts: what a swap in one makes. -/
theorem mid7_all {l m l' : List Pt} {s : S} {v u : Int} (hl : PNorm l) (h : MapOf m (Mid7 l (within s l) v u (within s l).length)) (h' : MapOf l' fun b x => (Has s b ∧ ((Val l b v ∧ x = u) ∨ (Val l b x ∧ x ≠ v))) ∨ (Val l b x ∧ ¬ Has s b)) : m = l' := by
  refine h.eq h' fun b x => ?_
  unfold Mid7
  rw [List.take_length, withV_in, (within_map hl).val]
  constructor
  · rintro (⟨⟨h1, h2⟩, rfl⟩ | ⟨h1, h2⟩)
    · exact .inl ⟨h2, .inl ⟨h1, rfl⟩⟩
    · by_cases hb : Has s b
      · exact .inl ⟨hb, .inr ⟨h1, fun e => h2 ⟨e ▸ h1, hb⟩⟩⟩
      · exact .inr ⟨h1, hb⟩
  · rintro (⟨h1, ⟨h2, rfl⟩ | ⟨h2, h3⟩⟩ | ⟨h1, h2⟩)
    · exact .inl ⟨⟨h2, h1⟩, rfl⟩
    · exact .inr ⟨h2, fun e => h3 (PNorm.one hl h2 e.1)⟩
    · exact .inr ⟨h1, fun e => h2 e.2⟩
theorem within_off {s : S} {l : List Pt} (h : ¬ Ok s) : within s l = [] := by
  rcases hq : within s l with _ | ⟨x, r⟩
  · rfl
  · have hm : x ∈ within s l := by rw [hq]; exact List.mem_cons_self
    obtain ⟨y, -, h1, -⟩ := within_mem.1 hm
    have := (meet_some h1).1
    have h3 := (meet_some h1).2.1
    have ho := (meet_yes (x := y.1) (t := s)).1 (by rw [h1]; rfl)
    exact absurd ho.2.1 h
theorem withV_step (v : Int) {P : List Pt} {k : Nat} (hk : k < P.length) : count (withV v (P.take (k + 1))) = count (withV v (P.take k)) + if P[k].2 = v then P[k].1.2 - P[k].1.1 else 0 := by
  rw [withV_take hk, count_append]
  split <;> simp [count]
theorem within_lims {s : S} {l : List Pt} (h : Lims l) : Lims (within s l) := fun x hx => by
  obtain ⟨y, hy, h1, -⟩ := within_mem.1 hx
  have h2 := (meet_some h1).2.1
  have h3 := h y hy
  have h4 : x.1.2 = min y.1.2 s.2 := by rw [h2]
  omega
theorem count_in {s : S} {l : List Pt} (hl : PNorm l) (h : Lims l) (v : Int) (k : Nat) : 0 ≤ count (withV v ((within s l).take k)) ∧ count (withV v ((within s l).take k)) ≤ top := by
  have hn : PNorm ((within s l).take k) := PNorm.sub (within_map hl).norm (List.take_sublist k _)
  have := count_bound 0 (withV_norm (v := v) hn) (withV_lim fun x hx => within_lims h x (List.mem_of_mem_take hx)) (withV_nonneg hn) (by unfold top; omega)
  unfold top at *
  omega
end Go.Proofs.YtfbpmkecfmkffaaGreat
