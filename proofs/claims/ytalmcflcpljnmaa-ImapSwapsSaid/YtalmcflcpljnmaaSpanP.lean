/- Spans of blocks as pairs of numbers: their sets of blocks, and the shortest rising list that has a set; no code is spoken of. -/
import Derived.Handy
namespace Go.Proofs.Ytalmcflcpljnmaa.SpanP

abbrev S := Int × Int
def top : Int := 9223372036854775807
def Ok (s : S) : Prop := 0 ≤ s.1 ∧ s.1 < s.2
def Has (s : S) (b : Int) : Prop := Ok s ∧ s.1 ≤ b ∧ b < s.2
instance (s : S) : Decidable (Ok s) := by unfold Ok; infer_instance
instance (s : S) (b : Int) : Decidable (Has s b) := by unfold Has; infer_instance
def In (l : List S) (b : Int) : Prop := ∃ s, s ∈ l ∧ Has s b
/-- Spans that rise, and none touches the next one. -/
structure Norm (l : List S) : Prop where
  ok : ∀ s ∈ l, Ok s
  up : l.Pairwise fun s t => s.2 < t.1
/-- Spans that rise, and none touches the next one; some may have no block. -/
structure Weak (l : List S) : Prop where
  ok : ∀ s ∈ l, s.1 ≤ s.2
  up : l.Pairwise fun s t => s.2 < t.1

theorem not_in_nil (b : Int) : ¬ In [] b := by rintro ⟨s, h, _⟩; cases h
theorem in_cons {s : S} {l : List S} {b : Int} : In (s :: l) b ↔ Has s b ∨ In l b := by
  constructor
  · rintro ⟨t, h, k⟩
    rcases List.mem_cons.1 h with rfl | h
    · exact .inl k
    · exact .inr ⟨t, h, k⟩
  · rintro (h | ⟨t, h, k⟩)
    · exact ⟨s, List.mem_cons_self, h⟩
    · exact ⟨t, List.mem_cons_of_mem _ h, k⟩
theorem in_append {l m : List S} {b : Int} : In (l ++ m) b ↔ In l b ∨ In m b := by
  constructor
  · rintro ⟨t, h, k⟩
    rcases List.mem_append.1 h with h | h
    · exact .inl ⟨t, h, k⟩
    · exact .inr ⟨t, h, k⟩
  · rintro (⟨t, h, k⟩ | ⟨t, h, k⟩)
    · exact ⟨t, List.mem_append_left _ h, k⟩
    · exact ⟨t, List.mem_append_right _ h, k⟩
theorem in_one {s : S} {b : Int} : In [s] b ↔ Has s b := by rw [in_cons]; simp [not_in_nil]
theorem in_snoc {s : S} {l : List S} {b : Int} : In (l ++ [s]) b ↔ In l b ∨ Has s b := by rw [in_append, in_one]
theorem Norm.nil : Norm [] := ⟨by simp, List.Pairwise.nil⟩
theorem Norm.weak {l : List S} (h : Norm l) : Weak l := ⟨fun s hs => by have := h.ok s hs; unfold Ok at this; omega, h.up⟩
theorem Norm.tail {s : S} {l : List S} (h : Norm (s :: l)) : Norm l := ⟨fun t ht => h.ok t (List.mem_cons_of_mem _ ht), (List.pairwise_cons.1 h.up).2⟩
theorem Weak.tail {s : S} {l : List S} (h : Weak (s :: l)) : Weak l := ⟨fun t ht => h.ok t (List.mem_cons_of_mem _ ht), (List.pairwise_cons.1 h.up).2⟩
theorem Weak.behind {s : S} {l : List S} (h : Weak (s :: l)) {b : Int} (hb : In l b) : s.2 < b := by
  obtain ⟨t, ht, _, h1, _⟩ := hb
  have := (List.pairwise_cons.1 h.up).1 t ht
  omega
theorem Norm.behind {s : S} {l : List S} (h : Norm (s :: l)) {b : Int} (hb : In l b) : s.2 < b := h.weak.behind hb
theorem Norm.first {s : S} {l : List S} (h : Norm (s :: l)) : In (s :: l) s.1 := by
  have := h.ok s List.mem_cons_self
  exact in_cons.2 (.inl ⟨this, Int.le_refl _, this.2⟩)
theorem Norm.ends {s : S} {l : List S} (h : Norm (s :: l)) : ¬ In (s :: l) s.2 := by
  intro e
  rcases in_cons.1 e with e | e
  · have := e.2.2; omega
  · have := h.behind e; omega
theorem norm_ext : ∀ {m n : List S}, Norm m → Norm n → (∀ b, In m b ↔ In n b) → m = n
  | [], [], _, _, _ => rfl
  | [], t :: n, _, hn, h => absurd ((h t.1).2 hn.first) (not_in_nil _)
  | s :: m, [], hm, _, h => absurd ((h s.1).1 hm.first) (not_in_nil _)
  | s :: m, t :: n, hm, hn, h => by
    have hs := hm.ok s List.mem_cons_self
    have ht := hn.ok t List.mem_cons_self
    unfold Ok at hs ht
    have h1 : s.1 = t.1 := by
      rcases in_cons.1 ((h s.1).1 hm.first) with a | a <;> rcases in_cons.1 ((h t.1).2 hn.first) with b | b
      · have := a.2.1; have := b.2.1; omega
      · have := a.2.1; have := hm.behind b; omega
      · have := hn.behind a; have := b.2.1; omega
      · have := hn.behind a; have := hm.behind b; omega
    have h2 : s.2 = t.2 := by
      rcases Int.lt_trichotomy s.2 t.2 with e | e | e
      · exact absurd ((h s.2).2 (in_cons.2 (.inl ⟨ht, by omega, e⟩))) hm.ends
      · exact e
      · exact absurd ((h t.2).1 (in_cons.2 (.inl ⟨hs, by omega, e⟩))) hn.ends
    have h3 : m = n := norm_ext hm.tail hn.tail fun b => by
      constructor
      · intro hb
        have h4 := hm.behind hb
        rcases in_cons.1 ((h b).1 (in_cons.2 (.inr hb))) with e | e
        · have := e.2.2; omega
        · exact e
      · intro hb
        have h4 := hn.behind hb
        rcases in_cons.1 ((h b).2 (in_cons.2 (.inr hb))) with e | e
        · have := e.2.2; omega
        · exact e
    rw [h3, show s = t from Prod.ext h1 h2]
/-- The list m has just the blocks of which P holds, and is as short as it can be. -/
structure SetOf (m : List S) (P : Int → Prop) : Prop where
  norm : Norm m
  mem : ∀ b, In m b ↔ P b
theorem SetOf.eq {m n : List S} {P Q : Int → Prop} (h : SetOf m P) (k : SetOf n Q) (e : ∀ b, P b ↔ Q b) : m = n :=
  norm_ext h.norm k.norm fun b => (h.mem b).trans ((e b).trans (k.mem b).symm)
theorem SetOf.iff {m : List S} {P Q : Int → Prop} (h : SetOf m P) (e : ∀ b, P b ↔ Q b) : SetOf m Q := ⟨h.norm, fun b => (h.mem b).trans (e b)⟩
theorem Norm.set {m : List S} (h : Norm m) : SetOf m (In m) := ⟨h, fun _ => Iff.rfl⟩
def Lim (l : List S) : Prop := ∀ s ∈ l, s.2 ≤ top
theorem SetOf.lim {m : List S} {P : Int → Prop} (h : SetOf m P) (hP : ∀ b, P b → b < top) : Lim m := by
  intro s hs
  have ho := h.norm.ok s hs
  have := hP (s.2 - 1) ((h.mem _).1 ⟨s, hs, ho, by unfold Ok at ho; omega, by omega⟩)
  omega
theorem Lim.lt {l : List S} (h : Lim l) {b : Int} (hb : In l b) : b < top := by
  obtain ⟨s, hs, _, _, h2⟩ := hb
  have := h s hs
  omega

theorem Norm.last {p : List S} {u : S} (h : Norm (p ++ [u])) : ∀ v ∈ p, v.2 < u.1 := fun v hv =>
  (List.pairwise_append.1 h.up).2.2 v hv u (by simp)
theorem Norm.front {p q : List S} (h : Norm (p ++ q)) : Norm p := ⟨fun s hs => h.ok s (List.mem_append_left _ hs), (List.pairwise_append.1 h.up).1⟩
theorem Norm.add {n : List S} {s : S} (h : Norm n) (hs : Ok s) (hl : ∀ u ∈ n, u.2 < s.1) : Norm (n ++ [s]) := by
  refine ⟨fun t ht => ?_, List.pairwise_append.2 ⟨h.up, List.pairwise_singleton _ _, fun a ha b hb => ?_⟩⟩
  · rcases List.mem_append.1 ht with h1 | h1
    · exact h.ok t h1
    · rw [List.mem_singleton.1 h1]; exact hs
  · rw [List.mem_singleton.1 hb]; exact hl a ha
theorem Norm.add_last {p : List S} {u s : S} (h : Norm (p ++ [u])) (hs : Ok s) (hl : u.2 < s.1) : Norm (p ++ [u] ++ [s]) :=
  h.add hs fun v hv => by
    rcases List.mem_append.1 hv with h1 | h1
    · have := h.last v h1
      have := h.ok u (by simp)
      unfold Ok at this
      omega
    · rw [List.mem_singleton.1 h1]; exact hl
theorem Norm.grow {p : List S} {u s : S} (h : Norm (p ++ [u])) (hs : Ok s) (h1 : u.1 ≤ s.1) (h2 : s.1 ≤ u.2) :
    Norm (p ++ [(u.1, max u.2 s.2)]) ∧ ∀ b, In (p ++ [(u.1, max u.2 s.2)]) b ↔ In (p ++ [u]) b ∨ Has s b := by
  have hu := h.ok u (by simp)
  unfold Ok at hu
  refine ⟨h.front.add (show Ok (u.1, max u.2 s.2) from ⟨hu.1, by simp only; omega⟩) (fun v hv => h.last v hv), fun b => ?_⟩
  rw [in_snoc, in_snoc, or_assoc]
  refine or_congr Iff.rfl ?_
  unfold Has Ok at *
  simp only
  omega

/-- What two spans have in common. -/
def meet (a b : S) : Option S := if Ok a ∧ Ok b ∧ Ok (max a.1 b.1, min a.2 b.2) then some (max a.1 b.1, min a.2 b.2) else none
theorem meet_some {a b m : S} (h : meet a b = some m) : Ok m ∧ m = (max a.1 b.1, min a.2 b.2) ∧ ∀ c, Has m c ↔ Has a c ∧ Has b c := by
  unfold meet at h
  split at h
  · rename_i hk
    simp only [Option.some.injEq] at h
    subst h
    refine ⟨hk.2.2, rfl, fun c => ?_⟩
    obtain ⟨h1, h2, h3⟩ := hk
    unfold Has
    simp only [h1, h2, h3, true_and]
    omega
  · cases h
theorem meet_none {a b : S} (h : meet a b = none) : ∀ c, ¬ (Has a c ∧ Has b c) := by
  unfold meet at h
  split at h
  · cases h
  · rename_i hk
    rintro c ⟨⟨h1, h2, h3⟩, h4, h5, h6⟩
    exact hk ⟨h1, h4, by unfold Ok at *; simp only; omega⟩
theorem meet_comm (a b : S) : meet a b = meet b a := by
  unfold meet
  rw [Int.max_comm a.1 b.1, Int.min_comm a.2 b.2]
  by_cases h1 : Ok a <;> by_cases h2 : Ok b <;> simp [h1, h2]

/-- On the way along two lists: what is told, and what is left of both. -/
structure Way (A B L x y : List S) : Prop where
  norm : Norm L
  wx : Weak x
  wy : Weak y
  mem : ∀ b, (In A b ∧ In B b) ↔ In L b ∨ (In x b ∧ In y b)
  apart : ∀ u ∈ L, ∀ b, In x b → In y b → u.2 < b
theorem Way.start {A B : List S} (hA : Weak A) (hB : Weak B) : Way A B [] A B :=
  ⟨Norm.nil, hA, hB, fun b => by simp [not_in_nil], by simp⟩
theorem Way.stop {A B L x y : List S} (h : Way A B L x y) (e : x = [] ∨ y = []) : SetOf L fun b => In A b ∧ In B b :=
  ⟨h.norm, fun b => by
    rw [h.mem b]
    rcases e with rfl | rfl <;> simp [not_in_nil]⟩
def told (L : List S) : Option S → List S
  | none => L
  | some m => L ++ [m]
theorem in_told {L : List S} {o : Option S} {b : Int} : In (told L o) b ↔ In L b ∨ ∃ m, o = some m ∧ Has m b := by
  cases o with
  | none => simp [told]
  | some m => simp [told, in_snoc]
theorem Way.tell {A B L x y : List S} {s t : S} (h : Way A B L (s :: x) (t :: y)) : Norm (told L (meet s t)) := by
  rcases e : meet s t with _ | m
  · exact h.norm
  · obtain ⟨h1, h2, h3⟩ := meet_some e
    have hm := (h3 m.1).1 ⟨h1, Int.le_refl _, h1.2⟩
    exact h.norm.add h1 fun u hu => h.apart u hu m.1 (in_cons.2 (.inl hm.1)) (in_cons.2 (.inl hm.2))
theorem has_meet {s t : S} {b : Int} : (∃ m, meet s t = some m ∧ Has m b) ↔ Has s b ∧ Has t b := by
  constructor
  · rintro ⟨m, e, hm⟩
    exact ((meet_some e).2.2 b).1 hm
  · intro hb
    rcases e : meet s t with _ | m
    · exact absurd hb (meet_none e b)
    · exact ⟨m, rfl, ((meet_some e).2.2 b).2 hb⟩
theorem told_mem {L : List S} {o : Option S} {u : S} (h : u ∈ told L o) : u ∈ L ∨ o = some u := by
  cases o with
  | none => exact .inl h
  | some m =>
    rcases List.mem_append.1 h with h | h
    · exact .inl h
    · exact .inr (by rw [List.mem_singleton.1 h])
theorem Way.left {A B L x y : List S} {s t : S} (h : Way A B L (s :: x) (t :: y)) (e : s.2 < t.2) : Way A B (told L (meet s t)) x (t :: y) := by
  refine ⟨h.tell, h.wx.tail, h.wy, fun b => ?_, fun u hu b hb hc => ?_⟩
  · rw [h.mem b, in_told, has_meet, or_assoc]
    refine or_congr Iff.rfl ?_
    rw [in_cons, in_cons]
    constructor
    · rintro ⟨h1 | h1, h2 | h2⟩
      · exact .inl ⟨h1, h2⟩
      · have := h.wy.behind h2; have := h1.2.2; omega
      · exact .inr ⟨h1, .inl h2⟩
      · exact .inr ⟨h1, .inr h2⟩
    · rintro (⟨h1, h2⟩ | ⟨h1, h2⟩)
      · exact ⟨.inl h1, .inl h2⟩
      · exact ⟨.inr h1, h2⟩
  · rcases told_mem hu with h1 | h1
    · exact h.apart u h1 b (in_cons.2 (.inr hb)) hc
    · have h2 := (meet_some h1).2.1
      have := h.wx.behind hb
      rw [h2]
      simp only
      omega
theorem Way.right {A B L x y : List S} {s t : S} (h : Way A B L (s :: x) (t :: y)) (e : ¬ s.2 < t.2) : Way A B (told L (meet s t)) (s :: x) y := by
  refine ⟨h.tell, h.wx, h.wy.tail, fun b => ?_, fun u hu b hb hc => ?_⟩
  · rw [h.mem b, in_told, has_meet, or_assoc]
    refine or_congr Iff.rfl ?_
    rw [in_cons, in_cons]
    constructor
    · rintro ⟨h1 | h1, h2 | h2⟩
      · exact .inl ⟨h1, h2⟩
      · exact .inr ⟨.inl h1, h2⟩
      · have := h.wx.behind h1; have := h2.2.2; omega
      · exact .inr ⟨.inr h1, h2⟩
    · rintro (⟨h1, h2⟩ | ⟨h1, h2⟩)
      · exact ⟨.inl h1, .inl h2⟩
      · exact ⟨h1, .inr h2⟩
  · rcases told_mem hu with h1 | h1
    · exact h.apart u h1 b hb (in_cons.2 (.inr hc))
    · have h2 := (meet_some h1).2.1
      have := h.wy.behind hc
      rw [h2]
      simp only
      omega

/-- The spans between those of a list, ahead of them and behind them. -/
def gaps (f : Int) : List S → List S
  | [] => [(f, top)]
  | s :: l => (f, s.1) :: gaps s.2 l
theorem gaps_length : ∀ (f : Int) (l : List S), (gaps f l).length = l.length + 1
  | _, [] => rfl
  | _, s :: l => by simp [gaps, gaps_length]
theorem gaps_from : ∀ (f : Int) (l : List S), Norm l → (∀ s ∈ l, f ≤ s.1) → ∀ t ∈ gaps f l, f ≤ t.1
  | f, [], _, _ => by simp [gaps]
  | f, s :: l, hn, hf => by
    intro t ht
    rcases List.mem_cons.1 ht with rfl | ht
    · exact Int.le_refl _
    · have h1 := gaps_from s.2 l hn.tail (fun u hu => by have := (List.pairwise_cons.1 hn.up).1 u hu; omega) t ht
      have h2 := hf s List.mem_cons_self
      have h3 := hn.ok s List.mem_cons_self
      unfold Ok at h3
      omega
theorem gaps_weak : ∀ (f : Int) (l : List S), Norm l → Lim l → (∀ s ∈ l, f ≤ s.1) → f ≤ top → Weak (gaps f l)
  | f, [], _, _, _, ht => ⟨by simp [gaps]; exact ht, by simp [gaps]⟩
  | f, s :: l, hn, hl, hf, ht => by
    have h3 := hn.ok s List.mem_cons_self
    unfold Ok at h3
    have h4 : ∀ u ∈ l, s.2 ≤ u.1 := fun u hu => by have := (List.pairwise_cons.1 hn.up).1 u hu; omega
    have hw := gaps_weak s.2 l hn.tail (fun u hu => hl u (List.mem_cons_of_mem _ hu)) h4 (hl s List.mem_cons_self)
    refine ⟨fun t h => ?_, List.pairwise_cons.2 ⟨fun t h => ?_, hw.up⟩⟩
    · rcases List.mem_cons.1 h with rfl | h
      · exact hf s List.mem_cons_self
      · exact hw.ok t h
    · have := gaps_from s.2 l hn.tail h4 t h
      simp only
      omega
theorem gaps_in : ∀ (f : Int) (l : List S), Norm l → Lim l → 0 ≤ f → (∀ s ∈ l, f ≤ s.1) → f ≤ top → ∀ b, In (gaps f l) b ↔ (f ≤ b ∧ b < top) ∧ ¬ In l b
  | f, [], _, _, h0, _, ht, b => by
    rw [gaps, in_one]
    have := not_in_nil b
    unfold Has Ok
    simp only
    constructor
    · rintro h; exact ⟨by omega, this⟩
    · rintro ⟨h, _⟩; omega
  | f, s :: l, hn, hl, h0, hf, ht, b => by
    have h3 := hn.ok s List.mem_cons_self
    have h5 := hf s List.mem_cons_self
    have h6 := hl s List.mem_cons_self
    have h7 : Ok s := h3
    unfold Ok at h3
    have h4 : ∀ u ∈ l, s.2 ≤ u.1 := fun u hu => by have := (List.pairwise_cons.1 hn.up).1 u hu; omega
    rw [gaps, in_cons, gaps_in s.2 l hn.tail (fun u hu => hl u (List.mem_cons_of_mem _ hu)) (by omega) h4 h6 b, in_cons]
    constructor
    · rintro (⟨h1, h2, h8⟩ | ⟨h1, h2⟩)
      · simp only at h2 h8
        refine ⟨by omega, ?_⟩
        rintro (e | e)
        · have := e.2.1; omega
        · have := hn.behind e; omega
      · refine ⟨by omega, ?_⟩
        rintro (e | e)
        · have := e.2.2; omega
        · exact h2 e
    · rintro ⟨h1, h2⟩
      by_cases e : b < s.1
      · exact .inl ⟨⟨h0, by simp only; omega⟩, by simp only; omega, by simp only; omega⟩
      · refine .inr ⟨⟨?_, h1.2⟩, fun k => h2 (.inr k)⟩
        false_or_by_contra
        exact h2 (.inl ⟨h7, by omega, by omega⟩)
/-- How many blocks a list's spans have, each counted. -/
def count : List S → Int
  | [] => 0
  | s :: l => (s.2 - s.1) + count l
theorem count_append : ∀ l m : List S, count (l ++ m) = count l + count m
  | [], m => by simp [count]
  | s :: l, m => by simp [count, count_append l m]; omega
theorem count_bound : ∀ {l : List S} (f : Int), Norm l → Lim l → (∀ s ∈ l, f ≤ s.1) → f ≤ top → 0 ≤ count l ∧ count l ≤ top - f
  | [], f, _, _, _, h => by simp [count]; exact h
  | s :: l, f, hn, hl, hf, _ => by
    have h3 := hn.ok s List.mem_cons_self
    unfold Ok at h3
    have := count_bound (l := l) s.2 hn.tail (fun u hu => hl u (List.mem_cons_of_mem _ hu)) (fun u hu => by have := (List.pairwise_cons.1 hn.up).1 u hu; omega) (hl s List.mem_cons_self)
    have := hf s List.mem_cons_self
    simp only [count]
    omega
theorem Norm.nonneg {l : List S} (h : Norm l) : ∀ s ∈ l, (0 : Int) ≤ s.1 := fun s hs => (h.ok s hs).1
end Go.Proofs.Ytalmcflcpljnmaa.SpanP
