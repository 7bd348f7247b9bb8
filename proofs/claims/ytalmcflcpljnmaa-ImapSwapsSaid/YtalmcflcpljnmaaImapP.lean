/- Maps of ranges as lists of parts: what is cut out, what is laid, what is swapped; no code is spoken of. -/
import Derived.Test.YtalmcflcpljnmaaPartP
namespace Go.Proofs.Ytalmcflcpljnmaa.ImapP
open SpanP PartP
variable {V : Type}

/-- Ends are numbers. -/
def Lims (l : List (PtV V)) : Prop := ∀ x ∈ l, x.1.2 ≤ top
/-- The parts of a span's blocks alone. -/
def cutV (t : S) (l : List (PtV V)) : List (PtV V) := l.filterMap fun x => (meet x.1 t).map fun m => (m, x.2)
theorem cutV_nil (t : S) : cutV t ([] : List (PtV V)) = [] := rfl
theorem cutV_append (t : S) (l m : List (PtV V)) : cutV t (l ++ m) = cutV t l ++ cutV t m := by simp [cutV, List.filterMap_append]
theorem cutV_len (t : S) (l : List (PtV V)) : (cutV t l).length ≤ l.length := List.length_filterMap_le _ _
theorem mem_cutV {t : S} {l : List (PtV V)} {y : PtV V} : y ∈ cutV t l ↔ ∃ x ∈ l, meet x.1 t = some y.1 ∧ x.2 = y.2 := by
  unfold cutV
  rw [List.mem_filterMap]
  constructor
  · rintro ⟨x, hx, h⟩
    rcases e : meet x.1 t with _ | m
    · rw [e] at h; cases h
    · rw [e] at h
      simp only [Option.map_some, Option.some.injEq] at h
      subst h
      exact ⟨x, hx, e, rfl⟩
  · rintro ⟨x, hx, h1, h2⟩
    exact ⟨x, hx, by rw [h1]; simp [h2]⟩
theorem cutV_in {t : S} {l : List (PtV V)} {y : PtV V} (h : y ∈ cutV t l) : ∃ x ∈ l, Ok y.1 ∧ x.2 = y.2 ∧ x.1.1 ≤ y.1.1 ∧ y.1.2 ≤ x.1.2 ∧ t.1 ≤ y.1.1 ∧ y.1.2 ≤ t.2 := by
  obtain ⟨x, hx, h1, h2⟩ := mem_cutV.1 h
  obtain ⟨ho, he, _⟩ := meet_some h1
  refine ⟨x, hx, ho, h2, ?_, ?_, ?_, ?_⟩ <;> rw [he] <;> simp only <;> omega
theorem cutV_val {t : S} {l : List (PtV V)} {b : Int} {v : V} : Val (cutV t l) b v ↔ Val l b v ∧ Has t b := by
  constructor
  · rintro ⟨y, hy, hb, hv⟩
    obtain ⟨x, hx, h1, h2⟩ := mem_cutV.1 hy
    have := ((meet_some h1).2.2 b).1 hb
    exact ⟨⟨x, hx, this.1, h2.trans hv⟩, this.2⟩
  · rintro ⟨⟨x, hx, hb, hv⟩, ht⟩
    rcases e : meet x.1 t with _ | m
    · exact absurd ⟨hb, ht⟩ (meet_none e b)
    · exact ⟨(m, x.2), mem_cutV.2 ⟨x, hx, e, rfl⟩, ((meet_some e).2.2 b).2 ⟨hb, ht⟩, hv⟩
theorem cutV_pair {R Q : PtV V → PtV V → Prop} (t : S) {l : List (PtV V)} (h : l.Pairwise R) (hR : ∀ x y m n, R x y → meet x.1 t = some m → meet y.1 t = some n → Q (m, x.2) (n, y.2)) : (cutV t l).Pairwise Q := by
  unfold cutV
  rw [List.pairwise_filterMap]
  refine h.imp fun {x y} hxy a ha b hb => ?_
  rcases e1 : meet x.1 t with _ | m
  · rw [e1] at ha; cases ha
  · rcases e2 : meet y.1 t with _ | n
    · rw [e2] at hb; cases hb
    · rw [e1] at ha
      rw [e2] at hb
      simp only [Option.map_some, Option.some.injEq] at ha hb
      subst ha hb
      exact hR x y m n hxy e1 e2
theorem cutV_row (t : S) {l : List (PtV V)} (h : Row l) : Row (cutV t l) := by
  refine ⟨fun y hy => ?_, cutV_pair t h.up fun x y m n hxy hm hn => ?_⟩
  · obtain ⟨x, hx, ho, _⟩ := cutV_in hy
    exact ho
  · have h1 := (meet_some hm).2.1
    have h2 := (meet_some hn).2.1
    rw [h1, h2]
    simp only
    omega
theorem cutV_norm (t : S) {l : List (PtV V)} (h : PNorm l) : PNorm (cutV t l) := by
  refine ⟨(cutV_row t h.row).ok, cutV_pair t h.up fun x y m n hxy hm hn => ?_⟩
  have h1 := (meet_some hm).2.1
  have h2 := (meet_some hn).2.1
  have o1 := (meet_some hm).1
  have o2 := (meet_some hn).1
  unfold Ok at o1 o2
  rw [h1] at o1
  rw [h2] at o2
  rw [h1, h2]
  simp only at o1 o2 ⊢
  refine ⟨by omega, fun e => hxy.2 (by omega)⟩
theorem cutV_lims {t : S} (ht : t.2 ≤ top) (l : List (PtV V)) : Lims (cutV t l) := fun y hy => by
  obtain ⟨x, hx, _, _, _, _, _, h⟩ := cutV_in hy
  omega

/-- From part i on, and below part j, parts meet or touch the span. -/
structure Near (s : S) (l : List (PtV V)) (i j : Nat) : Prop where
  le : i ≤ j
  len : j ≤ l.length
  a : ∀ x ∈ l.take i, x.1.2 < s.1
  b : ∀ x ∈ l.drop i, s.1 ≤ x.1.2
  c : ∀ x ∈ l.take j, x.1.1 ≤ s.2
  d : ∀ x ∈ l.drop j, s.2 < x.1.1
def mid (l : List (PtV V)) (i j : Nat) : List (PtV V) := (l.take j).drop i
theorem mid_len {l : List (PtV V)} {i j : Nat} (h : j ≤ l.length) : (mid l i j).length = j - i := by unfold mid; rw [List.length_drop, List.length_take]; omega
theorem cut_mid (l : List (PtV V)) {i j : Nat} (h : i ≤ j) : l = l.take i ++ mid l i j ++ l.drop j := by
  unfold mid
  have e : l.take i = (l.take j).take i := by rw [List.take_take, Nat.min_eq_left h]
  rw [e, List.take_append_drop, List.take_append_drop]
theorem mid_sub {l : List (PtV V)} {i j : Nat} {x : PtV V} (h : x ∈ mid l i j) : x ∈ l ∧ x ∈ l.drop i ∧ x ∈ l.take j := by
  unfold mid at h
  have h2 := List.mem_of_mem_drop h
  refine ⟨List.mem_of_mem_take h2, ?_, h2⟩
  rw [List.drop_take] at h
  exact List.mem_of_mem_take h
section
variable {s : S} {l : List (PtV V)} {i j : Nat}
theorem Near.val (h : Near s l i j) {t : S} (h1 : s.1 ≤ t.1) (h2 : t.2 ≤ s.2) (b : Int) (v : V) : Val (cutV t (mid l i j)) b v ↔ Val l b v ∧ Has t b := by
  rw [cutV_val]
  constructor
  · rintro ⟨⟨x, hx, k⟩, ht⟩
    exact ⟨⟨x, (mid_sub hx).1, k⟩, ht⟩
  · rintro ⟨⟨x, hx, k, hv⟩, ht⟩
    refine ⟨⟨x, ?_, k, hv⟩, ht⟩
    rw [cut_mid l h.le] at hx
    obtain ⟨_, k1, k2⟩ := k
    obtain ⟨_, t1, t2⟩ := ht
    rcases List.mem_append.1 hx with hx | hx
    · rcases List.mem_append.1 hx with hx | hx
      · have := h.a x hx; omega
      · exact hx
    · have := h.d x hx; omega
theorem PNorm.sub {m : List (PtV V)} (h : PNorm l) (hm : m.Sublist l) : PNorm m := ⟨fun x hx => h.ok x (hm.subset hx), h.up.sublist hm⟩
theorem mid_sublist (l : List (PtV V)) (i j : Nat) : (mid l i j).Sublist l := ((l.take j).drop_sublist i).trans (l.take_sublist j)
/-- What a span's blocks have, as the shortest list. -/
theorem Near.parts (h : Near s l i j) (hl : PNorm l) : MapOf (cutV s (mid l i j)) fun b v => Val l b v ∧ Has s b :=
  ⟨cutV_norm s (PNorm.sub hl (mid_sublist l i j)), h.val (Int.le_refl _) (Int.le_refl _)⟩
/-- What stands where the blocks of a span were. -/
def laid (s : S) (M m : List (PtV V)) : List (PtV V) := cutV (0, s.1) M ++ m ++ cutV (s.2, top) M
theorem laid_len (s : S) (M m : List (PtV V)) : (laid s M m).length ≤ M.length + M.length + m.length := by
  unfold laid
  have h1 := cutV_len (0, s.1) M
  have h2 := cutV_len (s.2, top) M
  simp only [List.length_append]
  omega
theorem laid_row (hs : Ok s) {M m : List (PtV V)} (hM : Row M) (hm : Row m) (hin : ∀ x ∈ m, s.1 ≤ x.1.1 ∧ x.1.2 ≤ s.2) : Row (laid s M m) := by
  have r1 := cutV_row (0, s.1) hM
  have r3 := cutV_row (s.2, top) hM
  unfold laid Ok at *
  refine ⟨fun x hx => ?_, List.pairwise_append.2 ⟨List.pairwise_append.2 ⟨r1.up, hm.up, fun x hx y hy => ?_⟩, r3.up, fun x hx y hy => ?_⟩⟩
  · rcases List.mem_append.1 hx with hx | hx
    · rcases List.mem_append.1 hx with hx | hx
      · exact r1.ok x hx
      · exact hm.ok x hx
    · exact r3.ok x hx
  · obtain ⟨_, _, _, _, _, _, _, h⟩ := cutV_in hx
    have := (hin y hy).1
    simp only at h
    omega
  · obtain ⟨_, _, _, _, _, _, h, _⟩ := cutV_in hy
    simp only at h
    rcases List.mem_append.1 hx with hx | hx
    · obtain ⟨_, _, _, _, _, _, _, h2⟩ := cutV_in hx
      simp only at h2
      omega
    · have := (hin x hx).2
      omega
theorem laid_val (hs : Ok s) {M m : List (PtV V)} (hM : Lims M) (b : Int) (v : V) : Val (laid s M m) b v ↔ Val m b v ∨ (Val M b v ∧ ¬ Has s b) := by
  unfold laid
  rw [val_append, val_append, cutV_val, cutV_val]
  have hs' := hs
  unfold Ok at hs'
  constructor
  · rintro ((⟨h, _, k1, k2⟩ | h) | ⟨h, _, k1, k2⟩)
    · exact .inr ⟨h, fun e => by have := e.2.1; simp only at k2; omega⟩
    · exact .inl h
    · exact .inr ⟨h, fun e => by have := e.2.2; simp only at k1; omega⟩
  · rintro (h | ⟨⟨x, hx, ⟨ho, k1, k2⟩, hv⟩, hn⟩)
    · exact .inl (.inr h)
    · have ho' := ho
      unfold Ok at ho'
      have hl := hM x hx
      by_cases e : b < s.1
      · exact .inl (.inl ⟨⟨x, hx, ⟨ho, k1, k2⟩, hv⟩, ⟨by simp only; omega, by simp only; omega⟩, by simp only; omega, e⟩)
      · refine .inr ⟨⟨x, hx, ⟨ho, k1, k2⟩, hv⟩, ⟨?_, ?_⟩, ?_, by simp only; omega⟩
        · simp only; omega
        · simp only
          false_or_by_contra
          exact hn ⟨hs, by omega, by omega⟩
        · simp only
          false_or_by_contra
          exact hn ⟨hs, by omega, by omega⟩
/-- Parts are laid where the blocks of a span are. -/
theorem lay_map (hl : PNorm l) (hL : Lims l) (hs : Ok s) (hn : Near s l i j) {m J : List (PtV V)} (hin : ∀ x ∈ m, s.1 ≤ x.1.1 ∧ x.1.2 ≤ s.2)
    (hJ : Weld (laid s (mid l i j) m) (laid s (mid l i j) m).length J) : MapOf (l.take i ++ J ++ l.drop j) fun b v => Val m b v ∨ (Val l b v ∧ ¬ Has s b) := by
  have hs' := hs
  unfold Ok at hs'
  have hJv : ∀ b v, Val J b v ↔ Val m b v ∨ (Val (mid l i j) b v ∧ ¬ Has s b) := fun b v => by
    rw [hJ.val b v, List.take_length]
    exact laid_val hs (fun x hx => hL x (mid_sub hx).1) b v
  have hmb : ∀ b v, Val m b v → s.1 ≤ b ∧ b < s.2 := by
    rintro b v ⟨x, hx, ⟨_, k1, k2⟩, _⟩
    have := hin x hx
    omega
  have hup := hl.up
  rw [cut_mid l hn.le] at hup
  obtain ⟨u1, u2, u3⟩ := List.pairwise_append.1 hup
  obtain ⟨u4, u5, u6⟩ := List.pairwise_append.1 u1
  refine ⟨⟨fun x hx => ?_, List.pairwise_append.2 ⟨List.pairwise_append.2 ⟨u4, hJ.norm.up, fun x hx y hy => ?_⟩, u2, fun x hx y hy => ?_⟩⟩, fun b v => ?_⟩
  · rcases List.mem_append.1 hx with hx | hx
    · rcases List.mem_append.1 hx with hx | hx
      · exact hl.ok x (List.mem_of_mem_take hx)
      · exact hJ.norm.ok x hx
    · exact hl.ok x (List.mem_of_mem_drop hx)
  · have ho := hJ.norm.ok y hy
    have ha := hn.a x hx
    have hf : Val J y.1.1 y.2 := ⟨y, hy, ⟨ho, Int.le_refl _, ho.2⟩, rfl⟩
    rcases (hJv _ _).1 hf with h | ⟨⟨z, hz, ⟨_, k1, k2⟩, hv⟩, _⟩
    · have := hmb _ _ h
      exact ⟨by omega, fun e => by omega⟩
    · have h6 := u6 x hx z hz
      refine ⟨by omega, fun e => ?_⟩
      rw [← hv]
      exact h6.2 (by omega)
  · rcases List.mem_append.1 hx with hx | hx
    · exact u3 x (List.mem_append_left _ hx) y hy
    · have ho := hJ.norm.ok x hx
      have hd := hn.d y hy
      have hf : Val J (x.1.2 - 1) x.2 := ⟨x, hx, ⟨ho, by unfold Ok at ho; omega, by omega⟩, rfl⟩
      rcases (hJv _ _).1 hf with h | ⟨⟨z, hz, ⟨_, k1, k2⟩, hv⟩, _⟩
      · have := hmb _ _ h
        exact ⟨by omega, fun e => by omega⟩
      · have h3 := u3 z (List.mem_append_right _ hz) y hy
        refine ⟨by omega, fun e => ?_⟩
        rw [← hv]
        exact h3.2 (by omega)
  · rw [val_append, val_append, hJv b v]
    constructor
    · rintro ((⟨x, hx, ⟨ho, k1, k2⟩, hv⟩ | h | ⟨⟨x, hx, k⟩, hn2⟩) | ⟨x, hx, ⟨ho, k1, k2⟩, hv⟩)
      · exact .inr ⟨⟨x, List.mem_of_mem_take hx, ⟨ho, k1, k2⟩, hv⟩, fun e => by have := hn.a x hx; have := e.2.1; omega⟩
      · exact .inl h
      · exact .inr ⟨⟨x, (mid_sub hx).1, k⟩, hn2⟩
      · exact .inr ⟨⟨x, List.mem_of_mem_drop hx, ⟨ho, k1, k2⟩, hv⟩, fun e => by have := hn.d x hx; have := e.2.2; omega⟩
    · rintro (h | ⟨⟨x, hx, k⟩, hn2⟩)
      · exact .inl (.inr (.inl h))
      · rw [cut_mid l hn.le] at hx
        rcases List.mem_append.1 hx with hx | hx
        · rcases List.mem_append.1 hx with hx | hx
          · exact .inl (.inl ⟨x, hx, k⟩)
          · exact .inl (.inr (.inr ⟨⟨x, hx, k⟩, hn2⟩))
        · exact .inr ⟨x, hx, k⟩
end
theorem MapOf.lims {m : List (PtV V)} {F : Int → V → Prop} (h : MapOf m F) (hF : ∀ b v, F b v → b < top) : Lims m := by
  intro x hx
  have ho := h.norm.ok x hx
  have := hF (x.1.2 - 1) x.2 ((h.val _ _).1 ⟨x, hx, ⟨ho, by unfold Ok at ho; omega, by omega⟩, rfl⟩)
  omega
theorem Lims.lt {l : List (PtV V)} (h : Lims l) {b : Int} {v : V} (hb : Val l b v) : b < top := by
  obtain ⟨x, hx, ⟨_, _, k⟩, _⟩ := hb
  have := h x hx
  omega
/-- The value of a block is one. -/
theorem PNorm.one {l : List (PtV V)} (h : PNorm l) {b : Int} {u v : V} (h1 : Val l b u) (h2 : Val l b v) : u = v := by
  induction l with
  | nil => exact absurd h1 (val_nil _ _)
  | cons x l ih =>
    rcases val_cons.1 h1 with ⟨a1, rfl⟩ | a <;> rcases val_cons.1 h2 with ⟨b1, rfl⟩ | c
    · rfl
    · have := (h.behind c).1; have := a1.2.2; omega
    · have := (h.behind a).1; have := b1.2.2; omega
    · exact ih h.tail a c

/-- One value is changed into another one. -/
def swapV [DecidableEq V] (v w : V) (l : List (PtV V)) : List (PtV V) := l.map fun x => if x.2 = v then (x.1, w) else x
theorem swapV_len [DecidableEq V] (v w : V) (l : List (PtV V)) : (swapV v w l).length = l.length := List.length_map ..
theorem swapV_mem [DecidableEq V] {v w : V} {l : List (PtV V)} {y : PtV V} (h : y ∈ swapV v w l) : ∃ x ∈ l, y.1 = x.1 ∧ y.2 = if x.2 = v then w else x.2 := by
  obtain ⟨x, hx, rfl⟩ := List.mem_map.1 h
  refine ⟨x, hx, ?_, ?_⟩ <;> split <;> rfl
theorem swapV_row [DecidableEq V] (v w : V) {l : List (PtV V)} (h : Row l) : Row (swapV v w l) := by
  refine ⟨fun y hy => ?_, ?_⟩
  · obtain ⟨x, hx, e, _⟩ := swapV_mem hy
    rw [e]; exact h.ok x hx
  · unfold swapV
    rw [List.pairwise_map]
    refine h.up.imp fun {x y} hxy => ?_
    rw [show (if x.2 = v then (x.1, w) else x).1 = x.1 by split <;> rfl, show (if y.2 = v then (y.1, w) else y).1 = y.1 by split <;> rfl]
    exact hxy
theorem swapV_val [DecidableEq V] {v w : V} {l : List (PtV V)} {b : Int} {u : V} : Val (swapV v w l) b u ↔ (Val l b v ∧ u = w) ∨ (Val l b u ∧ u ≠ v) := by
  constructor
  · rintro ⟨y, hy, hb, rfl⟩
    obtain ⟨x, hx, e1, e2⟩ := swapV_mem hy
    rw [e1] at hb
    split at e2
    · rename_i h; exact .inl ⟨⟨x, hx, hb, h⟩, e2⟩
    · rename_i h; exact .inr ⟨⟨x, hx, hb, e2.symm⟩, by rw [e2]; exact h⟩
  · rintro (⟨⟨x, hx, hb, rfl⟩, rfl⟩ | ⟨⟨x, hx, hb, rfl⟩, hne⟩)
    · exact ⟨(x.1, u), List.mem_map.2 ⟨x, hx, by rw [if_pos rfl]⟩, hb, rfl⟩
    · exact ⟨x, List.mem_map.2 ⟨x, hx, by rw [if_neg hne]⟩, hb, rfl⟩
end Go.Proofs.Ytalmcflcpljnmaa.ImapP
