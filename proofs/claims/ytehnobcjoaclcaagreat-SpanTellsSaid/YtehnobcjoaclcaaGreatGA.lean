/- Spans of blocks as pairs of numbers: their sets of blocks, and the shortest rising list that has a set; no code is spoken of. Ranges of blocks with values (parts), as lists: what value a block has, and the only shortest list for it; no code is spoken of. -/
import Derived.Handy
namespace Go.Proofs.YtehnobcjoaclcaaGreat.SpanP

abbrev S := Int × Int
def top : Int := 9223372036854775807
def Ok (s : S) : Prop := 0 ≤ s.1 ∧ s.1 < s.2
def Has (s : S) (b : Int) : Prop := Ok s ∧ s.1 ≤ b ∧ b < s.2
instance (s : S) : Decidable (Ok s) := by unfold Ok; infer_instance
instance (s : S) (b : Int) : Decidable (Has s b) := by unfold Has; infer_instance
def In (l : List S) (b : Int) : Prop := ∃ s, s ∈ l ∧ Has s b
/-- Spans that rise, and none touches the next one. -/
structure Norm (l : List S) : Prop where
  ok : ∀ s ∈ l, Ok s
  up : l.Pairwise fun s t => s.2 < t.1
/-- Spans that rise, and none touches the next one; some may have no block. -/
structure Weak (l : List S) : Prop where
  ok : ∀ s ∈ l, s.1 ≤ s.2
  up : l.Pairwise fun s t => s.2 < t.1

theorem not_in_nil (b : Int) : ¬ In [] b := by rintro ⟨s, h, _⟩; cases h
theorem in_cons {s : S} {l : List S} {b : Int} : In (s :: l) b ↔ Has s b ∨ In l b := by
  constructor
  · rintro ⟨t, h, k⟩
    rcases List.mem_cons.1 h with rfl | h
    · exact .inl k
    · exact .inr ⟨t, h, k⟩
  · rintro (h | ⟨t, h, k⟩)
    · exact ⟨s, List.mem_cons_self, h⟩
    · exact ⟨t, List.mem_cons_of_mem _ h, k⟩
theorem in_append {l m : List S} {b : Int} : In (l ++ m) b ↔ In l b ∨ In m b := by
  constructor
  · rintro ⟨t, h, k⟩
    rcases List.mem_append.1 h with h | h
    · exact .inl ⟨t, h, k⟩
    · exact .inr ⟨t, h, k⟩
  · rintro (⟨t, h, k⟩ | ⟨t, h, k⟩)
    · exact ⟨t, List.mem_append_left _ h, k⟩
    · exact ⟨t, List.mem_append_right _ h, k⟩
theorem in_one {s : S} {b : Int} : In [s] b ↔ Has s b := by rw [in_cons]; simp [not_in_nil]
theorem in_snoc {s : S} {l : List S} {b : Int} : In (l ++ [s]) b ↔ In l b ∨ Has s b := by rw [in_append, in_one]
theorem Norm.nil : Norm [] := ⟨by simp, List.Pairwise.nil⟩
theorem Norm.weak {l : List S} (h : Norm l) : Weak l := ⟨fun s hs => by have := h.ok s hs; unfold Ok at this; omega, h.up⟩
theorem Norm.tail {s : S} {l : List S} (h : Norm (s :: l)) : Norm l := ⟨fun t ht => h.ok t (List.mem_cons_of_mem _ ht), (List.pairwise_cons.1 h.up).2⟩
theorem Weak.tail {s : S} {l : List S} (h : Weak (s :: l)) : Weak l := ⟨fun t ht => h.ok t (List.mem_cons_of_mem _ ht), (List.pairwise_cons.1 h.up).2⟩
theorem Weak.behind {s : S} {l : List S} (h : Weak (s :: l)) {b : Int} (hb : In l b) : s.2 < b := by
  obtain ⟨t, ht, _, h1, _⟩ := hb
  have := (List.pairwise_cons.1 h.up).1 t ht
  omega
theorem Norm.behind {s : S} {l : List S} (h : Norm (s :: l)) {b : Int} (hb : In l b) : s.2 < b := h.weak.behind hb
theorem Norm.first {s : S} {l : List S} (h : Norm (s :: l)) : In (s :: l) s.1 := by
  have := h.ok s List.mem_cons_self
  exact in_cons.2 (.inl ⟨this, Int.le_refl _, this.2⟩)
theorem Norm.ends {s : S} {l : List S} (h : Norm (s :: l)) : ¬ In (s :: l) s.2 := by
  intro e
  rcases in_cons.1 e with e | e
  · have := e.2.2; omega
  · have := h.behind e; omega
theorem norm_ext : ∀ {m n : List S}, Norm m → Norm n → (∀ b, In m b ↔ In n b) → m = n
  | [], [], _, _, _ => rfl
  | [], t :: n, _, hn, h => absurd ((h t.1).2 hn.first) (not_in_nil _)
  | s :: m, [], hm, _, h => absurd ((h s.1).1 hm.first) (not_in_nil _)
  | s :: m, t :: n, hm, hn, h => by
    have hs := hm.ok s List.mem_cons_self
    have ht := hn.ok t List.mem_cons_self
    unfold Ok at hs ht
    have h1 : s.1 = t.1 := by
      rcases in_cons.1 ((h s.1).1 hm.first) with a | a <;> rcases in_cons.1 ((h t.1).2 hn.first) with b | b
      · have := a.2.1; have := b.2.1; omega
      · have := a.2.1; have := hm.behind b; omega
      · have := hn.behind a; have := b.2.1; omega
      · have := hn.behind a; have := hm.behind b; omega
    have h2 : s.2 = t.2 := by
      rcases Int.lt_trichotomy s.2 t.2 with e | e | e
      · exact absurd ((h s.2).2 (in_cons.2 (.inl ⟨ht, by omega, e⟩))) hm.ends
      · exact e
      · exact absurd ((h t.2).1 (in_cons.2 (.inl ⟨hs, by omega, e⟩))) hn.ends
    have h3 : m = n := norm_ext hm.tail hn.tail fun b => by
      constructor
      · intro hb
        have h4 := hm.behind hb
        rcases in_cons.1 ((h b).1 (in_cons.2 (.inr hb))) with e | e
        · have := e.2.2; omega
        · exact e
      · intro hb
        have h4 := hn.behind hb
        rcases in_cons.1 ((h b).2 (in_cons.2 (.inr hb))) with e | e
        · have := e.2.2; omega
        · exact e
    rw [h3, show s = t from Prod.ext h1 h2]
/-- The list m has just the blocks of which P holds, and is as short as it can be. -/
structure SetOf (m : List S) (P : Int → Prop) : Prop where
  norm : Norm m
  mem : ∀ b, In m b ↔ P b
theorem SetOf.eq {m n : List S} {P Q : Int → Prop} (h : SetOf m P) (k : SetOf n Q) (e : ∀ b, P b ↔ Q b) : m = n :=
  norm_ext h.norm k.norm fun b => (h.mem b).trans ((e b).trans (k.mem b).symm)
theorem SetOf.iff {m : List S} {P Q : Int → Prop} (h : SetOf m P) (e : ∀ b, P b ↔ Q b) : SetOf m Q := ⟨h.norm, fun b => (h.mem b).trans (e b)⟩
theorem Norm.set {m : List S} (h : Norm m) : SetOf m (In m) := ⟨h, fun _ => Iff.rfl⟩
def Lim (l : List S) : Prop := ∀ s ∈ l, s.2 ≤ top
theorem SetOf.lim {m : List S} {P : Int → Prop} (h : SetOf m P) (hP : ∀ b, P b → b < top) : Lim m := by
  intro s hs
  have ho := h.norm.ok s hs
  have := hP (s.2 - 1) ((h.mem _).1 ⟨s, hs, ho, by unfold Ok at ho; omega, by omega⟩)
  omega
theorem Lim.lt {l : List S} (h : Lim l) {b : Int} (hb : In l b) : b < top := by
  obtain ⟨s, hs, _, _, h2⟩ := hb
  have := h s hs
  omega

theorem Norm.last {p : List S} {u : S} (h : Norm (p ++ [u])) : ∀ v ∈ p, v.2 < u.1 := fun v hv =>
  (List.pairwise_append.1 h.up).2.2 v hv u (by simp)
theorem Norm.front {p q : List S} (h : Norm (p ++ q)) : Norm p := ⟨fun s hs => h.ok s (List.mem_append_left _ hs), (List.pairwise_append.1 h.up).1⟩
theorem Norm.add {n : List S} {s : S} (h : Norm n) (hs : Ok s) (hl : ∀ u ∈ n, u.2 < s.1) : Norm (n ++ [s]) := by
  refine ⟨fun t ht => ?_, List.pairwise_append.2 ⟨h.up, List.pairwise_singleton _ _, fun a ha b hb => ?_⟩⟩
  · rcases List.mem_append.1 ht with h1 | h1
    · exact h.ok t h1
    · rw [List.mem_singleton.1 h1]; exact hs
  · rw [List.mem_singleton.1 hb]; exact hl a ha
theorem Norm.add_last {p : List S} {u s : S} (h : Norm (p ++ [u])) (hs : Ok s) (hl : u.2 < s.1) : Norm (p ++ [u] ++ [s]) :=
  h.add hs fun v hv => by
    rcases List.mem_append.1 hv with h1 | h1
    · have := h.last v h1
      have := h.ok u (by simp)
      unfold Ok at this
      omega
    · rw [List.mem_singleton.1 h1]; exact hl
theorem Norm.grow {p : List S} {u s : S} (h : Norm (p ++ [u])) (hs : Ok s) (h1 : u.1 ≤ s.1) (h2 : s.1 ≤ u.2) :
    Norm (p ++ [(u.1, max u.2 s.2)]) ∧ ∀ b, In (p ++ [(u.1, max u.2 s.2)]) b ↔ In (p ++ [u]) b ∨ Has s b := by
  have hu := h.ok u (by simp)
  unfold Ok at hu
  refine ⟨h.front.add (show Ok (u.1, max u.2 s.2) from ⟨hu.1, by simp only; omega⟩) (fun v hv => h.last v hv), fun b => ?_⟩
  rw [in_snoc, in_snoc, or_assoc]
  refine or_congr Iff.rfl ?_
  unfold Has Ok at *
  simp only
  omega

/-- What two spans have in common. -/
def meet (a b : S) : Option S := if Ok a ∧ Ok b ∧ Ok (max a.1 b.1, min a.2 b.2) then some (max a.1 b.1, min a.2 b.2) else none
theorem meet_some {a b m : S} (h : meet a b = some m) : Ok m ∧ m = (max a.1 b.1, min a.2 b.2) ∧ ∀ c, Has m c ↔ Has a c ∧ Has b c := by
  unfold meet at h
  split at h
  · rename_i hk
    simp only [Option.some.injEq] at h
    subst h
    refine ⟨hk.2.2, rfl, fun c => ?_⟩
    obtain ⟨h1, h2, h3⟩ := hk
    unfold Has
    simp only [h1, h2, h3, true_and]
    omega
  · cases h
theorem meet_none {a b : S} (h : meet a b = none) : ∀ c, ¬ (Has a c ∧ Has b c) := by
  unfold meet at h
  split at h
  · cases h
  · rename_i hk
    rintro c ⟨⟨h1, h2, h3⟩, h4, h5, h6⟩
    exact hk ⟨h1, h4, by unfold Ok at *; simp only; omega⟩
theorem meet_comm (a b : S) : meet a b = meet b a := by
  unfold meet
  rw [Int.max_comm a.1 b.1, Int.min_comm a.2 b.2]
  by_cases h1 : Ok a <;> by_cases h2 : Ok b <;> simp [h1, h2]

/-- On the way along two lists: what is told, and what is left of both. -/
structure Way (A B L x y : List S) : Prop where
  norm : Norm L
  wx : Weak x
  wy : Weak y
  mem : ∀ b, (In A b ∧ In B b) ↔ In L b ∨ (In x b ∧ In y b)
  apart : ∀ u ∈ L, ∀ b, In x b → In y b → u.2 < b
theorem Way.start {A B : List S} (hA : Weak A) (hB : Weak B) : Way A B [] A B :=
  ⟨Norm.nil, hA, hB, fun b => by simp [not_in_nil], by simp⟩
theorem Way.stop {A B L x y : List S} (h : Way A B L x y) (e : x = [] ∨ y = []) : SetOf L fun b => In A b ∧ In B b :=
  ⟨h.norm, fun b => by
    rw [h.mem b]
    rcases e with rfl | rfl <;> simp [not_in_nil]⟩
def told (L : List S) : Option S → List S
  | none => L
  | some m => L ++ [m]
theorem in_told {L : List S} {o : Option S} {b : Int} : In (told L o) b ↔ In L b ∨ ∃ m, o = some m ∧ Has m b := by
  cases o with
  | none => simp [told]
  | some m => simp [told, in_snoc]
theorem Way.tell {A B L x y : List S} {s t : S} (h : Way A B L (s :: x) (t :: y)) : Norm (told L (meet s t)) := by
  rcases e : meet s t with _ | m
  · exact h.norm
  · obtain ⟨h1, h2, h3⟩ := meet_some e
    have hm := (h3 m.1).1 ⟨h1, Int.le_refl _, h1.2⟩
    exact h.norm.add h1 fun u hu => h.apart u hu m.1 (in_cons.2 (.inl hm.1)) (in_cons.2 (.inl hm.2))
theorem has_meet {s t : S} {b : Int} : (∃ m, meet s t = some m ∧ Has m b) ↔ Has s b ∧ Has t b := by
  constructor
  · rintro ⟨m, e, hm⟩
    exact ((meet_some e).2.2 b).1 hm
  · intro hb
    rcases e : meet s t with _ | m
    · exact absurd hb (meet_none e b)
    · exact ⟨m, rfl, ((meet_some e).2.2 b).2 hb⟩
theorem told_mem {L : List S} {o : Option S} {u : S} (h : u ∈ told L o) : u ∈ L ∨ o = some u := by
  cases o with
  | none => exact .inl h
  | some m =>
    rcases List.mem_append.1 h with h | h
    · exact .inl h
    · exact .inr (by rw [List.mem_singleton.1 h])
theorem Way.left {A B L x y : List S} {s t : S} (h : Way A B L (s :: x) (t :: y)) (e : s.2 < t.2) : Way A B (told L (meet s t)) x (t :: y) := by
  refine ⟨h.tell, h.wx.tail, h.wy, fun b => ?_, fun u hu b hb hc => ?_⟩
  · rw [h.mem b, in_told, has_meet, or_assoc]
    refine or_congr Iff.rfl ?_
    rw [in_cons, in_cons]
    constructor
    · rintro ⟨h1 | h1, h2 | h2⟩
      · exact .inl ⟨h1, h2⟩
      · have := h.wy.behind h2; have := h1.2.2; omega
      · exact .inr ⟨h1, .inl h2⟩
      · exact .inr ⟨h1, .inr h2⟩
    · rintro (⟨h1, h2⟩ | ⟨h1, h2⟩)
      · exact ⟨.inl h1, .inl h2⟩
      · exact ⟨.inr h1, h2⟩
  · rcases told_mem hu with h1 | h1
    · exact h.apart u h1 b (in_cons.2 (.inr hb)) hc
    · have h2 := (meet_some h1).2.1
      have := h.wx.behind hb
      rw [h2]
      simp only
      omega
theorem Way.right {A B L x y : List S} {s t : S} (h : Way A B L (s :: x) (t :: y)) (e : ¬ s.2 < t.2) : Way A B (told L (meet s t)) (s :: x) y := by
  refine ⟨h.tell, h.wx, h.wy.tail, fun b => ?_, fun u hu b hb hc => ?_⟩
  · rw [h.mem b, in_told, has_meet, or_assoc]
    refine or_congr Iff.rfl ?_
    rw [in_cons, in_cons]
    constructor
    · rintro ⟨h1 | h1, h2 | h2⟩
      · exact .inl ⟨h1, h2⟩
      · exact .inr ⟨.inl h1, h2⟩
      · have := h.wx.behind h1; have := h2.2.2; omega
      · exact .inr ⟨.inr h1, h2⟩
    · rintro (⟨h1, h2⟩ | ⟨h1, h2⟩)
      · exact ⟨.inl h1, .inl h2⟩
      · exact ⟨h1, .inr h2⟩
  · rcases told_mem hu with h1 | h1
    · exact h.apart u h1 b hb (in_cons.2 (.inr hc))
    · have h2 := (meet_some h1).2.1
      have := h.wy.behind hc
      rw [h2]
      simp only
      omega

/-- The spans between those of a list, ahead of them and behind them. -/
def gaps (f : Int) : List S → List S
  | [] => [(f, top)]
  | s :: l => (f, s.1) :: gaps s.2 l
theorem gaps_length : ∀ (f : Int) (l : List S), (gaps f l).length = l.length + 1
  | _, [] => rfl
  | _, s :: l => by simp [gaps, gaps_length]
theorem gaps_from : ∀ (f : Int) (l : List S), Norm l → (∀ s ∈ l, f ≤ s.1) → ∀ t ∈ gaps f l, f ≤ t.1
  | f, [], _, _ => by simp [gaps]
  | f, s :: l, hn, hf => by
    intro t ht
    rcases List.mem_cons.1 ht with rfl | ht
    · exact Int.le_refl _
    · have h1 := gaps_from s.2 l hn.tail (fun u hu => by have := (List.pairwise_cons.1 hn.up).1 u hu; omega) t ht
      have h2 := hf s List.mem_cons_self
      have h3 := hn.ok s List.mem_cons_self
      unfold Ok at h3
      omega
theorem gaps_weak : ∀ (f : Int) (l : List S), Norm l → Lim l → (∀ s ∈ l, f ≤ s.1) → f ≤ top → Weak (gaps f l)
  | f, [], _, _, _, ht => ⟨by simp [gaps]; exact ht, by simp [gaps]⟩
  | f, s :: l, hn, hl, hf, ht => by
    have h3 := hn.ok s List.mem_cons_self
    unfold Ok at h3
    have h4 : ∀ u ∈ l, s.2 ≤ u.1 := fun u hu => by have := (List.pairwise_cons.1 hn.up).1 u hu; omega
    have hw := gaps_weak s.2 l hn.tail (fun u hu => hl u (List.mem_cons_of_mem _ hu)) h4 (hl s List.mem_cons_self)
    refine ⟨fun t h => ?_, List.pairwise_cons.2 ⟨fun t h => ?_, hw.up⟩⟩
    · rcases List.mem_cons.1 h with rfl | h
      · exact hf s List.mem_cons_self
      · exact hw.ok t h
    · have := gaps_from s.2 l hn.tail h4 t h
      simp only
      omega
theorem gaps_in : ∀ (f : Int) (l : List S), Norm l → Lim l → 0 ≤ f → (∀ s ∈ l, f ≤ s.1) → f ≤ top → ∀ b, In (gaps f l) b ↔ (f ≤ b ∧ b < top) ∧ ¬ In l b
  | f, [], _, _, h0, _, ht, b => by
    rw [gaps, in_one]
    have := not_in_nil b
    unfold Has Ok
    simp only
    constructor
    · rintro h; exact ⟨by omega, this⟩
    · rintro ⟨h, _⟩; omega
  | f, s :: l, hn, hl, h0, hf, ht, b => by
    have h3 := hn.ok s List.mem_cons_self
    have h5 := hf s List.mem_cons_self
    have h6 := hl s List.mem_cons_self
    have h7 : Ok s := h3
    unfold Ok at h3
    have h4 : ∀ u ∈ l, s.2 ≤ u.1 := fun u hu => by have := (List.pairwise_cons.1 hn.up).1 u hu; omega
    rw [gaps, in_cons, gaps_in s.2 l hn.tail (fun u hu => hl u (List.mem_cons_of_mem _ hu)) (by omega) h4 h6 b, in_cons]
    constructor
    · rintro (⟨h1, h2, h8⟩ | ⟨h1, h2⟩)
      · simp only at h2 h8
        refine ⟨by omega, ?_⟩
        rintro (e | e)
        · have := e.2.1; omega
        · have := hn.behind e; omega
      · refine ⟨by omega, ?_⟩
        rintro (e | e)
        · have := e.2.2; omega
        · exact h2 e
    · rintro ⟨h1, h2⟩
      by_cases e : b < s.1
      · exact .inl ⟨⟨h0, by simp only; omega⟩, by simp only; omega, by simp only; omega⟩
      · refine .inr ⟨⟨?_, h1.2⟩, fun k => h2 (.inr k)⟩
        false_or_by_contra
        exact h2 (.inl ⟨h7, by omega, by omega⟩)
/-- How many blocks a list's spans have, each counted. -/
def count : List S → Int
  | [] => 0
  | s :: l => (s.2 - s.1) + count l
theorem count_append : ∀ l m : List S, count (l ++ m) = count l + count m
  | [], m => by simp [count]
  | s :: l, m => by simp [count, count_append l m]; omega
theorem count_bound : ∀ {l : List S} (f : Int), Norm l → Lim l → (∀ s ∈ l, f ≤ s.1) → f ≤ top → 0 ≤ count l ∧ count l ≤ top - f
  | [], f, _, _, _, h => by simp [count]; exact h
  | s :: l, f, hn, hl, hf, _ => by
    have h3 := hn.ok s List.mem_cons_self
    unfold Ok at h3
    have := count_bound (l := l) s.2 hn.tail (fun u hu => hl u (List.mem_cons_of_mem _ hu)) (fun u hu => by have := (List.pairwise_cons.1 hn.up).1 u hu; omega) (hl s List.mem_cons_self)
    have := hf s List.mem_cons_self
    simp only [count]
    omega
theorem Norm.nonneg {l : List S} (h : Norm l) : ∀ s ∈ l, (0 : Int) ≤ s.1 := fun s hs => (h.ok s hs).1
end Go.Proofs.YtehnobcjoaclcaaGreat.SpanP
namespace Go.Proofs.YtehnobcjoaclcaaGreat.PartP
open SpanP

abbrev PtV (V : Type) := S × V
abbrev Pt := PtV Int
variable {V : Type}
/-- The block b has the value v. -/
def Val (l : List (PtV V)) (b : Int) (v : V) : Prop := ∃ x, x ∈ l ∧ Has x.1 b ∧ x.2 = v
/-- Parts that rise; neighbours that touch have values of their own. -/
structure PNorm (l : List (PtV V)) : Prop where
  ok : ∀ x ∈ l, Ok x.1
  up : l.Pairwise fun x y => x.1.2 ≤ y.1.1 ∧ (x.1.2 = y.1.1 → x.2 ≠ y.2)
theorem val_nil (b : Int) (v : V) : ¬ Val [] b v := by rintro ⟨x, h, _⟩; cases h
theorem val_cons {x : PtV V} {l : List (PtV V)} {b : Int} {v : V} : Val (x :: l) b v ↔ (Has x.1 b ∧ x.2 = v) ∨ Val l b v := by
  constructor
  · rintro ⟨y, h, k⟩
    rcases List.mem_cons.1 h with rfl | h
    · exact .inl k
    · exact .inr ⟨y, h, k⟩
  · rintro (k | ⟨y, h, k⟩)
    · exact ⟨x, List.mem_cons_self, k⟩
    · exact ⟨y, List.mem_cons_of_mem _ h, k⟩
theorem val_append {l m : List (PtV V)} {b : Int} {v : V} : Val (l ++ m) b v ↔ Val l b v ∨ Val m b v := by
  constructor
  · rintro ⟨t, h, k⟩
    rcases List.mem_append.1 h with h | h
    · exact .inl ⟨t, h, k⟩
    · exact .inr ⟨t, h, k⟩
  · rintro (⟨t, h, k⟩ | ⟨t, h, k⟩)
    · exact ⟨t, List.mem_append_left _ h, k⟩
    · exact ⟨t, List.mem_append_right _ h, k⟩
theorem PNorm.tail {x : PtV V} {l : List (PtV V)} (h : PNorm (x :: l)) : PNorm l := ⟨fun t ht => h.ok t (List.mem_cons_of_mem _ ht), (List.pairwise_cons.1 h.up).2⟩
theorem PNorm.behind {x : PtV V} {l : List (PtV V)} (h : PNorm (x :: l)) {b : Int} {v : V} (hb : Val l b v) : x.1.2 ≤ b ∧ (b = x.1.2 → v ≠ x.2) := by
  obtain ⟨t, ht, ⟨_, h1, _⟩, hv⟩ := hb
  have h2 := (List.pairwise_cons.1 h.up).1 t ht
  refine ⟨by omega, fun e => ?_⟩
  have := h2.2 (by omega)
  intro e2
  exact this (by rw [hv, e2])
theorem PNorm.first {x : PtV V} {l : List (PtV V)} (h : PNorm (x :: l)) : Val (x :: l) x.1.1 x.2 := by
  have := h.ok x List.mem_cons_self
  exact val_cons.2 (.inl ⟨⟨this, Int.le_refl _, this.2⟩, rfl⟩)
theorem PNorm.ends {x : PtV V} {l : List (PtV V)} (h : PNorm (x :: l)) : ¬ Val (x :: l) x.1.2 x.2 := by
  intro e
  rcases val_cons.1 e with e | e
  · have := e.1.2.2; omega
  · exact (h.behind e).2 rfl rfl
theorem pnorm_ext : ∀ {m n : List (PtV V)}, PNorm m → PNorm n → (∀ b v, Val m b v ↔ Val n b v) → m = n
  | [], [], _, _, _ => rfl
  | [], t :: n, _, hn, h => absurd ((h t.1.1 t.2).2 hn.first) (val_nil _ _)
  | s :: m, [], hm, _, h => absurd ((h s.1.1 s.2).1 hm.first) (val_nil _ _)
  | s :: m, t :: n, hm, hn, h => by
    have hs := hm.ok s List.mem_cons_self
    have ht := hn.ok t List.mem_cons_self
    unfold Ok at hs ht
    have h1 : s.1.1 = t.1.1 ∧ s.2 = t.2 := by
      rcases val_cons.1 ((h s.1.1 s.2).1 hm.first) with a | a <;> rcases val_cons.1 ((h t.1.1 t.2).2 hn.first) with b | b
      · have h1 := a.1.2.1; have h2 := b.1.2.1; exact ⟨by omega, a.2.symm⟩
      · have h1 := a.1.2.1; have h2 := (hm.behind b).1; omega
      · have h1 := (hn.behind a).1; have h2 := b.1.2.1; omega
      · have h1 := (hn.behind a).1; have h2 := (hm.behind b).1; omega
    have h2 : s.1.2 = t.1.2 := by
      rcases Int.lt_trichotomy s.1.2 t.1.2 with e | e | e
      · exact absurd ((h s.1.2 s.2).2 (val_cons.2 (.inl ⟨⟨ht, by omega, e⟩, h1.2.symm⟩))) hm.ends
      · exact e
      · exact absurd ((h t.1.2 t.2).1 (val_cons.2 (.inl ⟨⟨hs, by omega, e⟩, h1.2⟩))) hn.ends
    have h3 : m = n := pnorm_ext hm.tail hn.tail fun b v => by
      constructor
      · intro hb
        have h4 := (hm.behind hb).1
        rcases val_cons.1 ((h b v).1 (val_cons.2 (.inr hb))) with e | e
        · have := e.1.2.2; omega
        · exact e
      · intro hb
        have h4 := (hn.behind hb).1
        rcases val_cons.1 ((h b v).2 (val_cons.2 (.inr hb))) with e | e
        · have := e.1.2.2; omega
        · exact e
    rw [h3, show s = t from Prod.ext (Prod.ext h1.1 h2) h1.2]
/-- The list m tells just the values that F tells, and is as short as it can be. -/
structure MapOf (m : List (PtV V)) (F : Int → V → Prop) : Prop where
  norm : PNorm m
  val : ∀ b v, Val m b v ↔ F b v
theorem MapOf.eq {m n : List (PtV V)} {F G : Int → V → Prop} (h : MapOf m F) (k : MapOf n G) (e : ∀ b v, F b v ↔ G b v) : m = n :=
  pnorm_ext h.norm k.norm fun b v => (h.val b v).trans ((e b v).trans (k.val b v).symm)
theorem MapOf.iff {m : List (PtV V)} {F G : Int → V → Prop} (h : MapOf m F) (e : ∀ b v, F b v ↔ G b v) : MapOf m G := ⟨h.norm, fun b v => (h.val b v).trans (e b v)⟩
theorem MapOf.nil : MapOf ([] : List (PtV V)) fun _ _ => False := ⟨⟨by simp, List.Pairwise.nil⟩, fun b v => by simp [val_nil]⟩

/-- What is left of a part without the blocks of a span. -/
def cutOut (s : S) (x : PtV V) : List (PtV V) :=
  (if x.1.1 < s.1 then [((x.1.1, min x.1.2 s.1), x.2)] else []) ++ (if x.1.2 > s.2 then [((max x.1.1 s.2, x.1.2), x.2)] else [])
def clear (s : S) (l : List (PtV V)) : List (PtV V) := l.flatMap (cutOut s)
theorem mem_cutOut {s : S} {x y : PtV V} (h : y ∈ cutOut s x) : (x.1.1 < s.1 ∧ y = ((x.1.1, min x.1.2 s.1), x.2)) ∨ (x.1.2 > s.2 ∧ y = ((max x.1.1 s.2, x.1.2), x.2)) := by
  unfold cutOut at h
  rcases List.mem_append.1 h with h | h
  · split at h
    · exact .inl ⟨by assumption, List.mem_singleton.1 h⟩
    · cases h
  · split at h
    · exact .inr ⟨by assumption, List.mem_singleton.1 h⟩
    · cases h
theorem cutOut_in {s : S} (hs : Ok s) {x : PtV V} (hx : Ok x.1) {y : PtV V} (h : y ∈ cutOut s x) : Ok y.1 ∧ x.1.1 ≤ y.1.1 ∧ y.1.2 ≤ x.1.2 ∧ y.2 = x.2 := by
  unfold Ok at *
  rcases mem_cutOut h with ⟨h1, rfl⟩ | ⟨h1, rfl⟩ <;> simp only <;> refine ⟨?_, ?_, ?_, trivial⟩ <;> omega
theorem clear_val {s : S} (hs : Ok s) {l : List (PtV V)} (hl : ∀ x ∈ l, Ok x.1) {b : Int} {v : V} : Val (clear s l) b v ↔ Val l b v ∧ ¬ Has s b := by
  unfold clear
  constructor
  · rintro ⟨y, hy, ⟨_, h1, h2⟩, hv⟩
    obtain ⟨x, hx, hxy⟩ := List.mem_flatMap.1 hy
    have ho := hl x hx
    obtain ⟨_, k1, k2, k3⟩ := cutOut_in hs ho hxy
    refine ⟨⟨x, hx, ⟨ho, by omega, by omega⟩, by rw [← k3]; exact hv⟩, ?_⟩
    rintro ⟨_, j1, j2⟩
    rcases mem_cutOut hxy with ⟨_, rfl⟩ | ⟨_, rfl⟩ <;> simp only at h1 h2 <;> omega
  · rintro ⟨⟨x, hx, ⟨ho, h1, h2⟩, hv⟩, hn⟩
    have hn' : b < s.1 ∨ s.2 ≤ b := by
      false_or_by_contra
      exact hn ⟨hs, by omega, by omega⟩
    unfold Ok at ho hs
    rcases hn' with h3 | h3
    · refine ⟨((x.1.1, min x.1.2 s.1), x.2), List.mem_flatMap.2 ⟨x, hx, ?_⟩, ⟨⟨by simp only; omega, by simp only; omega⟩, by simp only; omega, by simp only; omega⟩, hv⟩
      unfold cutOut
      rw [if_pos (by omega)]
      simp
    · refine ⟨((max x.1.1 s.2, x.1.2), x.2), List.mem_flatMap.2 ⟨x, hx, ?_⟩, ⟨⟨by simp only; omega, by simp only; omega⟩, by simp only; omega, by simp only; omega⟩, hv⟩
      unfold cutOut
      rw [if_pos (c := x.1.2 > s.2) (by omega)]
      simp
theorem clear_norm {s : S} (hs : Ok s) : ∀ {l : List (PtV V)}, PNorm l → PNorm (clear s l)
  | [], _ => ⟨by simp [clear], by simp [clear]⟩
  | x :: l, h => by
    have ih := clear_norm hs h.tail
    have hx := h.ok x List.mem_cons_self
    have e : clear s (x :: l) = cutOut s x ++ clear s l := by simp [clear]
    rw [e]
    refine ⟨fun y hy => ?_, List.pairwise_append.2 ⟨?_, ih.up, fun y hy z hz => ?_⟩⟩
    · rcases List.mem_append.1 hy with hy | hy
      · exact (cutOut_in hs hx hy).1
      · exact ih.ok y hy
    · unfold cutOut
      unfold Ok at hs
      split <;> split
      · simp only [List.cons_append, List.nil_append, List.pairwise_cons, List.mem_singleton, forall_eq, List.not_mem_nil, false_imp_iff, implies_true, List.Pairwise.nil, and_true]
        exact ⟨by omega, fun e => by omega⟩
      · simp
      · simp
      · simp
    · obtain ⟨_, _, k2, k3⟩ := cutOut_in hs hx hy
      obtain ⟨t, ht, hzt⟩ := List.mem_flatMap.1 hz
      obtain ⟨_, j1, _, j3⟩ := cutOut_in hs (h.ok t (List.mem_cons_of_mem _ ht)) hzt
      have h2 := (List.pairwise_cons.1 h.up).1 t ht
      refine ⟨by omega, fun e => ?_⟩
      rw [k3, j3]
      exact h2.2 (by omega)
theorem cutOut_right {s : S} {x : PtV V} (h : ¬ x.1.1 < s.1) : (cutOut s x).length ≤ 1 := by
  unfold cutOut
  rw [if_neg h]
  split <;> simp
theorem cutOut_left {s : S} {x : PtV V} (h : ¬ x.1.2 > s.2) : (cutOut s x).length ≤ 1 := by
  unfold cutOut
  rw [if_neg h]
  split <;> simp
theorem clear_right {s : S} : ∀ {l : List (PtV V)}, (∀ x ∈ l, ¬ x.1.1 < s.1) → (clear s l).length ≤ l.length
  | [], _ => by simp [clear]
  | x :: l, h => by
    have h1 := cutOut_right (h x List.mem_cons_self)
    have h2 := clear_right (l := l) fun y hy => h y (List.mem_cons_of_mem _ hy)
    unfold clear at h2 ⊢
    rw [List.flatMap_cons, List.length_append, List.length_cons]
    omega
/-- At most one part is cut in two. -/
theorem clear_len {s : S} (hs : Ok s) : ∀ {l : List (PtV V)}, PNorm l → (clear s l).length ≤ l.length + 1
  | [], _ => by simp [clear]
  | x :: l, h => by
    have e : clear s (x :: l) = cutOut s x ++ clear s l := by simp [clear]
    rw [e, List.length_append, List.length_cons]
    by_cases hx : x.1.2 > s.2
    · have h1 : (cutOut s x).length ≤ 2 := by
        unfold cutOut
        rw [if_pos hx]
        split <;> simp
      have h2 := clear_right (s := s) (l := l) fun y hy => by
        have := ((List.pairwise_cons.1 h.up).1 y hy).1
        unfold Ok at hs
        omega
      omega
    · have h1 := cutOut_left hx
      have h2 := clear_len hs h.tail
      omega
/-- Parts in order; neighbours may touch, and be alike. -/
structure Row (l : List (PtV V)) : Prop where
  ok : ∀ x ∈ l, Ok x.1
  up : l.Pairwise fun x y => x.1.2 ≤ y.1.1
theorem PNorm.row {l : List (PtV V)} (h : PNorm l) : Row l := ⟨h.ok, h.up.imp fun k => k.1⟩
/-- What is told on the way, where neighbours that touch and are alike are made one. -/
structure Weld (d : List (PtV V)) (k : Nat) (n : List (PtV V)) : Prop where
  le : k ≤ d.length
  len : n.length ≤ k
  norm : PNorm n
  val : ∀ b v, Val n b v ↔ Val (d.take k) b v
  up : ∀ u ∈ n, ∀ x ∈ d.drop k, u.1.2 ≤ x.1.1
theorem Weld.start (d : List (PtV V)) : Weld d 0 [] := ⟨by omega, by simp, ⟨by simp, List.Pairwise.nil⟩, fun b v => by simp, by simp⟩
theorem PNorm.front {p q : List (PtV V)} (h : PNorm (p ++ q)) : PNorm p := ⟨fun s hs => h.ok s (List.mem_append_left _ hs), (List.pairwise_append.1 h.up).1⟩
theorem PNorm.add {n : List (PtV V)} {x : PtV V} (h : PNorm n) (hx : Ok x.1) (hl : ∀ u ∈ n, u.1.2 ≤ x.1.1 ∧ (u.1.2 = x.1.1 → u.2 ≠ x.2)) : PNorm (n ++ [x]) := by
  refine ⟨fun t ht => ?_, List.pairwise_append.2 ⟨h.up, List.pairwise_singleton _ _, fun a ha b hb => ?_⟩⟩
  · rcases List.mem_append.1 ht with h1 | h1
    · exact h.ok t h1
    · rw [List.mem_singleton.1 h1]; exact hx
  · rw [List.mem_singleton.1 hb]; exact hl a ha
theorem val_one {x : PtV V} {b : Int} {v : V} : Val [x] b v ↔ Has x.1 b ∧ x.2 = v := by rw [val_cons]; simp [val_nil]
section
variable {d : List (PtV V)} {k : Nat} (hd : Row d)
include hd
theorem row_next (h : k < d.length) : ∀ x ∈ d.drop (k + 1), d[k].1.2 ≤ x.1.1 := by
  intro x hx
  have := hd.up.drop (i := k)
  rw [List.drop_eq_getElem_cons h] at this
  exact (List.pairwise_cons.1 this).1 x hx
theorem Weld.join {p : List (PtV V)} {u : PtV V} (h : Weld d k (p ++ [u])) (hk : k < d.length) (h1 : u.1.2 = d[k].1.1) (h2 : u.2 = d[k].2) : Weld d (k + 1) (p ++ [((u.1.1, d[k].1.2), u.2)]) := by
  have ho := hd.ok d[k] (List.getElem_mem hk)
  have hu := h.norm.ok u (by simp)
  unfold Ok at ho hu
  have hp := (List.pairwise_append.1 h.norm.up).2.2
  refine ⟨by omega, by have := h.len; simp at this ⊢; omega, ?_, fun b v => ?_, fun w hw x hx => ?_⟩
  · exact h.norm.front.add (show Ok (u.1.1, d[k].1.2) from ⟨hu.1, by simp only; omega⟩) fun t ht => hp t ht u (by simp)
  · rw [val_append, val_one, List.take_succ_eq_append_getElem hk, val_append, val_one, ← h.val b v, val_append, val_one, or_assoc]
    refine or_congr Iff.rfl ?_
    rw [← h2]
    unfold Has Ok
    simp only
    constructor
    · rintro ⟨h3, h4⟩
      by_cases e : b < u.1.2
      · exact .inl ⟨by omega, h4⟩
      · exact .inr ⟨by omega, h4⟩
    · rintro (⟨h3, h4⟩ | ⟨h3, h4⟩)
      · exact ⟨by omega, h4⟩
      · exact ⟨by omega, h4⟩
  · have hx' : x ∈ d.drop k := by rw [List.drop_eq_getElem_cons hk]; exact List.mem_cons_of_mem _ hx
    rcases List.mem_append.1 hw with hw | hw
    · exact h.up w (List.mem_append_left _ hw) x hx'
    · rw [List.mem_singleton.1 hw]
      exact row_next hd hk x hx
theorem Weld.more {n : List (PtV V)} (h : Weld d k n) (hk : k < d.length) (he : ∀ p u, n = p ++ [u] → ¬ (u.1.2 = d[k].1.1 ∧ u.2 = d[k].2)) : Weld d (k + 1) (n ++ [d[k]]) := by
  have ho := hd.ok d[k] (List.getElem_mem hk)
  have hkd : d[k] ∈ d.drop k := by rw [List.drop_eq_getElem_cons hk]; exact List.mem_cons_self
  refine ⟨by omega, by have := h.len; simp; omega, h.norm.add ho fun u hu => ⟨h.up u hu _ hkd, fun e1 e2 => ?_⟩, fun b v => ?_, fun w hw x hx => ?_⟩
  · rcases List.eq_nil_or_concat n with rfl | ⟨p, t, rfl⟩
    · cases hu
    · rw [List.concat_eq_append] at *
      rcases List.mem_append.1 hu with hu | hu
      · have h1 := (List.pairwise_append.1 h.norm.up).2.2 u hu t (by simp)
        have h2 := h.up t (by simp) _ hkd
        have h3 := h.norm.ok t (by simp)
        unfold Ok at h3
        omega
      · rw [List.mem_singleton.1 hu] at e1 e2
        exact he p t rfl ⟨e1, e2⟩
  · rw [val_append, h.val b v, List.take_succ_eq_append_getElem hk, val_append]
  · rcases List.mem_append.1 hw with hw | hw
    · exact h.up w hw x (by rw [List.drop_eq_getElem_cons hk]; exact List.mem_cons_of_mem _ hx)
    · rw [List.mem_singleton.1 hw]
      exact row_next hd hk x hx
end
/-- A part is put in its place. -/
theorem place_row {s : S} (hs : Ok s) (v : V) {l : List (PtV V)} (h : PNorm l) {k : Nat} (h1 : ∀ x ∈ (clear s l).take k, x.1.1 < s.1) (h2 : ∀ x ∈ (clear s l).drop k, s.1 ≤ x.1.1) :
    Row ((clear s l).take k ++ (s, v) :: (clear s l).drop k) ∧ ∀ b u, Val ((clear s l).take k ++ (s, v) :: (clear s l).drop k) b u ↔ (Has s b ∧ v = u) ∨ (Val l b u ∧ ¬ Has s b) := by
  have hc := clear_norm hs h
  have hv := fun b u => clear_val hs h.ok (b := b) (v := u)
  have hno : ∀ x ∈ clear s l, x.1.2 ≤ s.1 ∨ s.2 ≤ x.1.1 := fun x hx => by
    have ho := hc.ok x hx
    false_or_by_contra
    have hso := hs
    unfold Ok at ho hs
    have := ((hv (max x.1.1 s.1) x.2).1 ⟨x, hx, ⟨hc.ok x hx, by omega, by omega⟩, rfl⟩).2
    exact this ⟨hso, by omega, by omega⟩
  have h0 : ∀ b u, Val (clear s l) b u ↔ Val ((clear s l).take k) b u ∨ Val ((clear s l).drop k) b u := fun b u => by
    rw [← val_append, List.take_append_drop]
  refine ⟨⟨fun x hx => ?_, ?_⟩, fun b u => ?_⟩
  · rcases List.mem_append.1 hx with hx | hx
    · exact hc.ok x (List.mem_of_mem_take hx)
    · rcases List.mem_cons.1 hx with rfl | hx
      · exact hs
      · exact hc.ok x (List.mem_of_mem_drop hx)
  · have hr := hc.row.up
    rw [← List.take_append_drop k (clear s l)] at hr
    obtain ⟨r1, r2, r3⟩ := List.pairwise_append.1 hr
    refine List.pairwise_append.2 ⟨r1, List.pairwise_cons.2 ⟨fun y hy => ?_, r2⟩, fun x hx y hy => ?_⟩
    · have := h2 y hy
      have ho := hc.ok y (List.mem_of_mem_drop hy)
      unfold Ok at ho hs
      rcases hno y (List.mem_of_mem_drop hy) with e | e
      · omega
      · exact e
    · rcases List.mem_cons.1 hy with rfl | hy
      · have := h1 x hx
        unfold Ok at hs
        rcases hno x (List.mem_of_mem_take hx) with e | e
        · exact e
        · simp only; omega
      · exact r3 x hx y hy
  · rw [val_append, val_cons, ← or_assoc, or_comm (a := Val _ b u), or_assoc, ← h0 b u, hv b u]
/-- The blocks whose value is v. -/
def withV [DecidableEq V] (v : V) (l : List (PtV V)) : List S := (l.filter fun x => decide (x.2 = v)).map (·.1)
theorem withV_in [DecidableEq V] {v : V} {l : List (PtV V)} {b : Int} : In (withV v l) b ↔ Val l b v := by
  unfold withV
  constructor
  · rintro ⟨s, hs, h⟩
    obtain ⟨x, hx, rfl⟩ := List.mem_map.1 hs
    exact ⟨x, (List.mem_filter.1 hx).1, h, of_decide_eq_true (List.mem_filter.1 hx).2⟩
  · rintro ⟨x, hx, h, hv⟩
    exact ⟨x.1, List.mem_map.2 ⟨x, List.mem_filter.2 ⟨hx, decide_eq_true hv⟩, rfl⟩, h⟩
theorem withV_norm [DecidableEq V] {v : V} {l : List (PtV V)} (h : PNorm l) : SpanP.Norm (withV v l) := by
  unfold withV
  refine ⟨fun s hs => ?_, ?_⟩
  · obtain ⟨x, hx, rfl⟩ := List.mem_map.1 hs
    exact h.ok x (List.mem_filter.1 hx).1
  · rw [List.pairwise_map]
    have h1 := h.up.sublist (List.filter_sublist (p := fun x => decide (x.2 = v)))
    refine (List.Pairwise.and_mem.1 h1).imp fun {x y} ⟨hx, hy, hxy⟩ => ?_
    have e1 := of_decide_eq_true (List.mem_filter.1 hx).2
    have e2 := of_decide_eq_true (List.mem_filter.1 hy).2
    rcases Int.lt_or_eq_of_le hxy.1 with e | e
    · exact e
    · exact absurd (e1.trans e2.symm) (hxy.2 e)
end Go.Proofs.YtehnobcjoaclcaaGreat.PartP
