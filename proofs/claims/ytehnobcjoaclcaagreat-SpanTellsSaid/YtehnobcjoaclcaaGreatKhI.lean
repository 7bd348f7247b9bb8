/- commonsbook's lists of Ints: what they do while a book is looked through. -/
import Derived.Test.YtehnobcjoaclcaaGreatKgI
namespace Go.Proofs.YtehnobcjoaclcaaGreat
open Go Go.RowKit
set_option maxRecDepth 100000
set_option maxHeartbeats 1000000
set_option linter.unusedSimpArgs false

/-- How long lists are, and their cells. -/
def lensInts (L : List (List Int)) : List (Nat × List Value) := L.map fun l => (l.length, vals l)
theorem marksInts_row {w : World} {lo i n : Nat} {y : Value} (h : RowAt w lo 3 1 y n (vals (marksInts i 0 n))) : Ints w y (marksInts i 0 n) := by
  have h2 : IRow w lo y (marksInts i 0 n) := by
    show RowAt _ _ _ _ _ (marksInts i 0 n).length _
    rw [marksInts_length]
    exact h
  exact IRow.ints h2
section
variable {p lo : Nat} {w0 : World} {iv wv : Value} {vs ts : List Value} {L : List (List Int)}
def DPInts (p : Nat) (iv wv : Value) (vs ts : List Value) (k : Nat) : Prop := k = p ∨ iv.ownBlock = some k ∨ wv.ownBlock = some k ∨ KS vs k ∨ KS ts k
def APInts (p lo : Nat) (iv wv : Value) (vs ts : List Value) (L : List (List Int)) (W : World) : Prop :=
  (∃ cs, Sits W p 41 cs) ∧ W.cell? ⟨p, 2, none⟩ = some iv ∧ W.cell? ⟨p, 2 + 1, none⟩ = some wv ∧ Kept W lo 55 3 1 iv wv vs ts (lensInts L)
def BPInts (p lo : Nat) (iv : Value) (vs : List Value) (L : List (List Int)) (W : World) : Prop :=
  (∃ cs, Sits W p 41 cs) ∧ W.cell? ⟨p, 2, none⟩ = some iv ∧ RowAt W lo 55 1 iv vs.length vs ∧ wayInts W lo vs (lensInts L) vs.length
def GPInts (w0 : World) (lo : Nat) (vs : List Value) (L : List (List Int)) (W : World) (u : Value) : Prop :=
  ∃ us, RowAt W w0.heap.size 55 1 u us.length us ∧ us.length = vs.length ∧ outInts w0 W lo vs (lensInts L) us
theorem lensInts_len (L : List (List Int)) : (lensInts L).length = L.length := List.length_map ..
theorem lensInts_at {L : List (List Int)} {i : Nat} {x : Nat × List Value} (h : (lensInts L)[i]? = some x) : ∃ l, L[i]? = some l ∧ x = (l.length, vals l) := by
  unfold lensInts at h
  rw [List.getElem?_map, Option.map_eq_some_iff] at h
  obtain ⟨l, h1, h2⟩ := h
  exact ⟨l, h1, h2.symm⟩
theorem ksInts_ne {W : World} (hw : wayInts W lo vs (lensInts L) vs.length) (hl : vs.length = (lensInts L).length) {q T : Nat} {cs : Array Value} (hs : Sits W q T cs) (hT : T ≠ 3) : ¬ KS vs q := by
  rintro ⟨v, hv, hq⟩
  obtain ⟨i, hi, rfl⟩ := List.getElem_of_mem hv
  have hr := (hw i _ _ (List.getElem?_eq_getElem hi) (List.getElem?_eq_getElem (by omega))).1 hi
  obtain ⟨c1, s1⟩ := hr.sits q hq
  exact (hs.apart s1 hT) rfl
theorem keptInts_ne {W : World} (h : Kept W lo 55 3 1 iv wv vs ts (lensInts L)) {q T : Nat} {cs : Array Value} (hs : Sits W q T cs) (hT : T ≠ 3) : ¬ KS vs q := fun hq => by
  obtain ⟨⟨c1, s1⟩, _⟩ := h.ks hq
  exact (hs.apart s1 hT) rfl
theorem tsInts_typ {W : World} (h : Kept W lo 55 3 1 iv wv vs ts (lensInts L)) {q : Nat} (hq : KS ts q) : ∃ cs, Sits W q 3 cs := by
  obtain ⟨v, hv, hb⟩ := hq
  obtain ⟨i, hi, rfl⟩ := List.getElem_of_mem hv
  have hr := h.was i _ _ (List.getElem?_eq_getElem hi) (List.getElem?_eq_getElem (by rw [← h.len2]; exact hi))
  exact hr.sits q hb
/-- Lists of Ints, while a book is looked through. -/
def kindInts (hA : APInts p lo iv wv vs ts L w0) (hlo : lo ≤ w0.heap.size) : KindOk p w0 42 60 72 87 iv 3 [41, 55, 3] where
  S := KS vs
  D := DPInts p iv wv vs ts
  A := APInts p lo iv wv vs ts L
  B := BPInts p lo iv vs L
  G := GPInts w0 lo vs L
  typS := fun k hk => (hA.2.2.2.ks hk).1
  typD := fun k hk => by
    obtain ⟨⟨cs, hs⟩, _, _, hK⟩ := hA
    rcases hk with rfl | hk | hk | hk | hk
    · exact ⟨_, cs, by simp, hs⟩
    · obtain ⟨c1, s1⟩ := hK.rowI.sits k hk; exact ⟨_, c1, by simp, s1⟩
    · obtain ⟨c1, s1⟩ := hK.rowW.sits k hk; exact ⟨_, c1, by simp, s1⟩
    · obtain ⟨⟨c1, s1⟩, _⟩ := hK.ks hk; exact ⟨_, c1, by simp, s1⟩
    · obtain ⟨c1, s1⟩ := tsInts_typ hK hk; exact ⟨_, c1, by simp, s1⟩
  start := hA
  keep := fun T W W' hT hW hm => by
    have hp : ¬ T p := fun e => (hT p e).2 (.inl rfl)
    have hc : ∀ (c : Nat) u, (∃ cs, Sits W p 41 cs) → W.cell? ⟨p, c, none⟩ = some u → W'.cell? ⟨p, c, none⟩ = some u := fun c u ⟨cs, hs⟩ h => (World.cell?_of_block (hm.block p hs.lt hp)).trans h
    have hb : (∃ cs, Sits W p 41 cs) → ∃ cs, Sits W' p 41 cs := fun ⟨cs, hs⟩ => ⟨cs, hs.many hm hp⟩
    refine ⟨fun ⟨h1, h2, h3, h4⟩ => ⟨hb h1, hc _ _ h1 h2, hc _ _ h1 h3, h4.many hm (fun k e t => (hT k t).2 (.inr (.inl e))) (fun k e t => (hT k t).2 (.inr (.inr (.inl e)))) (fun k e t => (hT k t).2 (.inr (.inr (.inr (.inl e))))) (fun k e t => (hT k t).2 (.inr (.inr (.inr (.inr e)))))⟩,
      fun ⟨h1, h2, h3, h4⟩ => ⟨hb h1, hc _ _ h1 h2, hm.kept h3 (fun k e t => (hT k t).2 (.inr (.inl e))), wayInts.many h4 hm (fun k e t => (hT k t).2 (.inr (.inr (.inr (.inl e)))))⟩, fun u ⟨us, h1, h2, h3⟩ => ⟨us, hm.kept h1 (fun k e t => ?_), h2, fun i y v x hy hv hx => ?_⟩⟩
    · have := (h1.lt k e).1
      have := (hT k t).1
      omega
    · obtain ⟨g1, g2⟩ := h3 i y v x hy hv hx
      refine ⟨hm.kept g1 (fun k e t => ?_), g2⟩
      rcases g2 k e with g3 | g3
      · exact (hT k t).2 (.inr (.inr (.inr (.inl (ks_at hv g3)))))
      · have := (hT k t).1
        omega
  still := fun W ⟨h1, h2, h3, h4⟩ => by
    refine stillInts_yes p vs ts iv wv W h2 h3 h4.rowI.vals h4.rowW.vals (by rw [h4.len2, h4.len1]) (fun i x y hx hy => ?_)
    have hi : i < (lensInts L).length := by rw [← h4.len1]; exact (List.getElem?_eq_some_iff.1 hx).1
    obtain ⟨z, hz⟩ : ∃ z, (lensInts L)[i]? = some z := ⟨_, List.getElem?_eq_getElem hi⟩
    obtain ⟨l, hl, rfl⟩ := lensInts_at hz
    exact ⟨l, IRow.ints (h4.kept i x _ hx hz), IRow.ints (h4.was i y _ hy hz)⟩
  put := fun W _ ⟨⟨cs, h1⟩, h2, h3, h4⟩ => by
    have hpk : ¬ KS vs p := keptInts_ne h4 h1 (by decide)
    have hik : ∀ k, iv.ownBlock = some k → ¬ KS vs k := fun k e => by
      obtain ⟨c1, s1⟩ := h4.rowI.sits k e
      exact keptInts_ne h4 s1 (by decide)
    refine (putInts_any p lo iv wv vs ts (lensInts L) W h2 h1.lt hpk h4 hik).mono ?_
    rintro e w' ⟨he, hm, hw⟩
    exact ⟨he, hm, ⟨cs, h1.many hm hpk⟩, (World.cell?_of_block (hm.block p h1.lt hpk)).trans h2, hm.kept h4.rowI hik, hw⟩
  grow := fun W hW ⟨⟨cs, h1⟩, h2, h3, h4⟩ => by
    obtain ⟨_, _, _, hK⟩ := hA
    have hpk : ¬ KS vs p := ksInts_ne h4 hK.len1 h1 (by decide)
    have hik : ∀ k, iv.ownBlock = some k → ¬ KS vs k := fun k e => by
      obtain ⟨c1, s1⟩ := h3.sits k e
      exact ksInts_ne h4 hK.len1 s1 (by decide)
    refine (growInts_any p lo iv vs (lensInts L) W h2 h1.lt hpk h3 hik hK.len1 hK.few hK.small hK.nodup (Nat.le_trans hlo hW) h4).mono ?_
    rintro e w' ⟨u, us, he, hm, hw, hr, hl, ho⟩
    obtain ⟨a, c, rfl, -⟩ := hr.form
    refine ⟨a, us.length, c, he, hm, ⟨⟨cs, h1.many hm hpk⟩, (World.cell?_of_block (hm.block p h1.lt hpk)).trans h2, hm.kept h3 hik, hw⟩, us, RowAt.mono hr hW, hl, fun i y v x hy hv hx => ?_⟩
    obtain ⟨g1, g2⟩ := ho i y v x hy hv hx
    exact ⟨g1, fun q hq => (g2 q hq).imp id fun g3 => Nat.le_trans hW g3⟩
  marked := fun W u ⟨us, h1, h2, h3⟩ => by
    obtain ⟨_, _, _, hK⟩ := hA
    refine markedInts_yes us u W h1.vals (by rw [h2, hK.len1]; exact hK.few) (fun i y hy => ?_)
    have hi : i < vs.length := by rw [← h2]; exact (List.getElem?_eq_some_iff.1 hy).1
    obtain ⟨z, hz⟩ : ∃ z, (lensInts L)[i]? = some z := ⟨_, List.getElem?_eq_getElem (by rw [← hK.len1]; exact hi)⟩
    have hs := hK.small z (List.mem_of_getElem? hz)
    exact ⟨z.1 + 72, by omega, marksInts_row (h3 i y _ z hy (List.getElem?_eq_getElem hi) hz).1⟩
  markedB := fun W ⟨_, h2, h3, h4⟩ => by
    obtain ⟨_, _, _, hK⟩ := hA
    refine markedInts_yes vs iv W h3.vals (by rw [hK.len1]; exact hK.few) (fun i y hy => ?_)
    have hi : i < vs.length := (List.getElem?_eq_some_iff.1 hy).1
    obtain ⟨z, hz⟩ : ∃ z, (lensInts L)[i]? = some z := ⟨_, List.getElem?_eq_getElem (by rw [← hK.len1]; exact hi)⟩
    have hs := hK.small z (List.mem_of_getElem? hz)
    exact ⟨z.1, by omega, marksInts_row ((h4 i y z hy hz).1 hi)⟩
end
end Go.Proofs.YtehnobcjoaclcaaGreat
