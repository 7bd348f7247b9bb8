/- A ring of numbers, in pure terms: who is next to whom, and what turns where one is taken out or put ahead of all; entries by their last uses. -/
import Derived.Handy
namespace Go.Proofs.YthmfbcaidlgkbaaGreat.LruP

/-- Who is behind y in the list that begins with p and goes on with l; behind the last one comes z. -/
def od (z : Nat) : Nat → List Nat → Nat → Nat
  | _, [], _ => z
  | p, a :: l, y => if y = p then a else od z a l y
/-- Who is ahead of y in the list that begins with p and goes on with l; ahead of whoever is not in it comes the last one. -/
def nw : Nat → List Nat → Nat → Nat
  | p, [], _ => p
  | p, a :: l, y => if y = a then p else nw a l y

theorem last_mem (p : Nat) : ∀ l : List Nat, l.getLastD p = p ∨ l.getLastD p ∈ l
  | [] => .inl rfl
  | a :: l => by
    rw [List.getLastD_cons]
    rcases last_mem a l with h | h
    · rw [h]; exact .inr List.mem_cons_self
    · exact .inr (List.mem_cons_of_mem _ h)
theorem head_mem (z : Nat) : ∀ l : List Nat, l.headD z = z ∨ l.headD z ∈ l
  | [] => .inl rfl
  | a :: l => .inr (by simp)
theorem od_self (z p : Nat) (l : List Nat) : od z p l p = l.headD z := by cases l <;> simp [od]
theorem od_mid (z x : Nat) (B : List Nat) : ∀ (A : List Nat) (p : Nat), x ≠ p → x ∉ A → od z p (A ++ x :: B) x = B.headD z
  | [], p, hp, _ => by simp [od, hp, od_self]
  | a :: A, p, hp, hA => by
    simp only [List.mem_cons, not_or] at hA
    simp [od, hp, od_mid z x B A a hA.1 hA.2]
theorem nw_mid (x : Nat) (B : List Nat) : ∀ (A : List Nat) (p : Nat), x ∉ A → nw p (A ++ x :: B) x = A.getLastD p
  | [], p, _ => by simp [nw]
  | a :: A, p, hA => by
    simp only [List.mem_cons, not_or] at hA
    rw [List.getLastD_cons, ← nw_mid x B A a hA.2]
    simp [nw, hA.1]
theorem od_del (z x y : Nat) (B : List Nat) (hy : y ≠ x) : ∀ (A : List Nat) (p : Nat), p ∉ A → A.Nodup → od z p (A ++ B) y = if y = A.getLastD p then B.headD z else od z p (A ++ x :: B) y
  | [], p, _, _ => by
    cases B with
    | nil => by_cases h : y = p <;> simp [od, h]
    | cons c B => by_cases h : y = p <;> simp [od, h, hy]
  | a :: A, p, hp, hA => by
    obtain ⟨h1, h2⟩ := List.nodup_cons.1 hA
    simp only [List.mem_cons, not_or] at hp
    have ih := od_del z x y B hy A a h1 h2
    rw [List.getLastD_cons]
    show (if y = p then a else od z a (A ++ B) y) = if y = A.getLastD a then B.headD z else (if y = p then a else od z a (A ++ x :: B) y)
    by_cases hyp : y = p
    · have : y ≠ A.getLastD a := by
        rcases last_mem a A with e | e
        · rw [e, hyp]; exact hp.1
        · intro e2; rw [← e2, hyp] at e; exact hp.2 e
      rw [if_pos hyp, if_neg this, if_pos hyp]
    · rw [if_neg hyp, ih, if_neg hyp]
theorem nw_del (z x y : Nat) (B : List Nat) : ∀ (A : List Nat) (p : Nat), y = z ∨ y ∈ A ++ B → y ≠ x → z ∉ A → (A ++ B).Nodup → nw p (A ++ B) y = if y = B.headD z then A.getLastD p else nw p (A ++ x :: B) y
  | [], p, hy, hx, _, _ => by
    cases B with
    | nil => rcases hy with rfl | hy
             · simp [nw]
             · simp at hy
    | cons c B => simp only [List.nil_append, nw, List.headD_cons, List.getLastD_nil, if_neg hx]; split <;> rfl
  | a :: A, p, hy, hx, hz, hA => by
    obtain ⟨h1, h2⟩ := List.nodup_cons.1 hA
    simp only [List.mem_cons, not_or] at hz
    have h1 : a ∉ A ++ B := h1
    rw [List.mem_append, not_or] at h1
    rw [List.getLastD_cons]
    show (if y = a then p else nw a (A ++ B) y) = if y = B.headD z then A.getLastD a else (if y = a then p else nw a (A ++ x :: B) y)
    by_cases hya : y = a
    · have : y ≠ B.headD z := by
        rcases head_mem z B with e | e
        · rw [e, hya]; exact fun e2 => hz.1 e2.symm
        · intro e2; rw [← e2, hya] at e; exact h1.2 e
      rw [if_pos hya, if_neg this, if_pos hya]
    · rw [if_neg hya, if_neg hya]
      refine nw_del z x y B A a ?_ hx hz.2 h2
      rcases hy with hy | hy
      · exact .inl hy
      · rcases List.mem_cons.1 hy with e | e
        · exact absurd e hya
        · exact .inr e
theorem od_cons (z x y : Nat) (R : List Nat) : od z z (x :: R) y = if y = z then x else if y = x then R.headD z else od z z R y := by
  show (if y = z then x else od z x R y) = _
  by_cases hz : y = z
  · rw [if_pos hz, if_pos hz]
  · rw [if_neg hz, if_neg hz]
    cases R with
    | nil => simp [od]
    | cons c R => simp [od, hz]
theorem nw_cons (z x y : Nat) (R : List Nat) (hy : y = z ∨ y ∈ R) : nw z (x :: R) y = if y = x then z else if y = R.headD z then x else nw z R y := by
  show (if y = x then z else nw x R y) = _
  by_cases hx : y = x
  · rw [if_pos hx, if_pos hx]
  · rw [if_neg hx, if_neg hx]
    cases R with
    | nil => rcases hy with rfl | hy
             · simp [nw]
             · simp at hy
    | cons c R => simp only [nw, List.headD_cons]; split <;> rfl
theorem od_mem (z y : Nat) : ∀ (l : List Nat) (p : Nat), od z p l y = z ∨ od z p l y ∈ l
  | [], _ => .inl rfl
  | a :: l, p => by
    show (if y = p then a else od z a l y) = z ∨ (if y = p then a else od z a l y) ∈ a :: l
    split
    · exact .inr List.mem_cons_self
    · rcases od_mem z y l a with h | h
      · exact .inl h
      · exact .inr (List.mem_cons_of_mem _ h)
theorem nw_mem (y : Nat) : ∀ (l : List Nat) (p : Nat), nw p l y = p ∨ nw p l y ∈ l
  | [], _ => .inl rfl
  | a :: l, p => by
    show (if y = a then p else nw a l y) = p ∨ (if y = a then p else nw a l y) ∈ a :: l
    split
    · exact .inl rfl
    · rcases nw_mem y l a with h | h
      · rw [h]; exact .inr List.mem_cons_self
      · exact .inr (List.mem_cons_of_mem _ h)

/-- An entry: its block, its key, its value, its pins, and when it was used last. -/
structure Ent (κ β : Type) where
  b : Nat
  k : κ
  v : β
  pins : Int
  used : Int
/-- What can be told of an entry. -/
structure Slot (κ β : Type) where
  k : κ
  v : β
  pins : Int
section
variable {κ β : Type}
def ids (L : List (Ent κ β)) : List Nat := L.map Ent.b
def told (L : List (Ent κ β)) : List (Slot κ β) := L.map fun e => ⟨e.k, e.v, e.pins⟩
theorem ids_append (A B : List (Ent κ β)) : ids (A ++ B) = ids A ++ ids B := List.map_append
theorem told_append (A B : List (Ent κ β)) : told (A ++ B) = told A ++ told B := List.map_append
theorem told_cons (e : Ent κ β) (B : List (Ent κ β)) : told (e :: B) = ⟨e.k, e.v, e.pins⟩ :: told B := rfl
theorem told_length (L : List (Ent κ β)) : (told L).length = L.length := List.length_map _
/-- What is told, cut in two, is told of a list cut in two. -/
theorem told_cut : ∀ {L : List (Ent κ β)} {A B : List (Slot κ β)}, told L = A ++ B → ∃ LA LB, L = LA ++ LB ∧ told LA = A ∧ told LB = B
  | L, [], B, h => ⟨[], L, rfl, rfl, h⟩
  | [], a :: A, B, h => by simp [told] at h
  | e :: L, a :: A, B, h => by
    rw [told_cons, List.cons_append] at h
    injection h with h1 h2
    obtain ⟨LA, LB, rfl, h3, h4⟩ := told_cut h2
    exact ⟨e :: LA, LB, rfl, by rw [told_cons, h1, h3], h4⟩
theorem told_mid {L : List (Ent κ β)} {A B : List (Slot κ β)} {s : Slot κ β} (h : told L = A ++ s :: B) : ∃ LA e LB, L = LA ++ e :: LB ∧ told LA = A ∧ s = ⟨e.k, e.v, e.pins⟩ ∧ told LB = B := by
  obtain ⟨LA, LB, rfl, h1, h2⟩ := told_cut h
  cases LB with
  | nil => simp [told] at h2
  | cons e LB =>
    rw [told_cons] at h2
    injection h2 with h2 h3
    exact ⟨LA, e, LB, rfl, h1, h2.symm, h3⟩

/-- The last one of a list that is free is where it is. -/
theorem last_free {LA A LB B : List (Slot κ β)} {x y : Slot κ β} (h : LA ++ x :: LB = A ++ y :: B) (hx : x.pins = 0) (hy : y.pins = 0) (hLB : ∀ f ∈ LB, 0 < f.pins) (hB : ∀ f ∈ B, 0 < f.pins) : LA = A ∧ y = x ∧ LB = B := by
  rcases List.append_eq_append_iff.1 h with ⟨C, h1, h2⟩ | ⟨C, h1, h2⟩
  · cases C with
    | nil =>
      simp only [List.append_nil] at h1
      simp only [List.nil_append] at h2
      injection h2 with h2 h3
      exact ⟨h1.symm, h2.symm, h3⟩
    | cons c C =>
      rw [List.cons_append] at h2
      injection h2 with h2 h3
      have := hLB y (by rw [h3]; simp)
      omega
  · cases C with
    | nil =>
      simp only [List.append_nil] at h1
      simp only [List.nil_append] at h2
      injection h2 with h2 h3
      exact ⟨h1, h2, h3.symm⟩
    | cons c C =>
      rw [List.cons_append] at h2
      injection h2 with h2 h3
      have := hB x (by rw [h3]; simp)
      omega

/-- Where the search begins: all behind it are pinned. -/
def Nx (z nx : Nat) (L : List (Ent κ β)) : Prop := ∃ A B, L = A ++ B ∧ (∀ e ∈ B, 0 < e.pins) ∧ nx = (ids A).getLastD z
/-- By their uses, the one that was used last first; pins are never less than none. -/
structure Aged (c : Int) (L : List (Ent κ β)) : Prop where
  falls : L.Pairwise fun a b => b.used < a.used
  most : ∀ e ∈ L, e.used ≤ c
  pins : ∀ e ∈ L, 0 ≤ e.pins
theorem Aged.del {c : Int} {A B : List (Ent κ β)} {e : Ent κ β} (h : Aged c (A ++ e :: B)) : Aged c (A ++ B) :=
  have hs : (A ++ B).Sublist (A ++ e :: B) := List.Sublist.append_left (List.sublist_cons_self e B) A
  ⟨h.falls.sublist hs, fun x hx => h.most x (hs.subset hx), fun x hx => h.pins x (hs.subset hx)⟩
theorem Aged.cons {c : Int} {L : List (Ent κ β)} {e : Ent κ β} (h : Aged c L) (hu : e.used = c + 1) (hp : 0 ≤ e.pins) : Aged (c + 1) (e :: L) :=
  ⟨List.pairwise_cons.2 ⟨fun x hx => by have := h.most x hx; omega, h.falls⟩, fun x hx => by
    rcases List.mem_cons.1 hx with rfl | hx
    · omega
    · have := h.most x hx; omega, fun x hx => by
    rcases List.mem_cons.1 hx with rfl | hx
    · exact hp
    · exact h.pins x hx⟩
theorem Aged.put {c : Int} {A B : List (Ent κ β)} {e f : Ent κ β} (h : Aged c (A ++ e :: B)) (hu : f.used = e.used) (hp : 0 ≤ f.pins) : Aged c (A ++ f :: B) := by
  have h1 := List.pairwise_append.1 h.falls
  have h2 := List.pairwise_cons.1 h1.2.1
  refine ⟨List.pairwise_append.2 ⟨h1.1, List.pairwise_cons.2 ⟨fun x hx => by rw [hu]; exact h2.1 x hx, h2.2⟩, fun a ha x hx => ?_⟩, fun x hx => ?_, fun x hx => ?_⟩
  · rcases List.mem_cons.1 hx with rfl | hx
    · rw [hu]; exact h1.2.2 a ha e List.mem_cons_self
    · exact h1.2.2 a ha x (List.mem_cons_of_mem _ hx)
  · rcases List.mem_append.1 hx with hx | hx
    · exact h.most x (List.mem_append_left _ hx)
    · rcases List.mem_cons.1 hx with rfl | hx
      · rw [hu]; exact h.most e (by simp)
      · exact h.most x (by simp [hx])
  · rcases List.mem_append.1 hx with hx | hx
    · exact h.pins x (List.mem_append_left _ hx)
    · rcases List.mem_cons.1 hx with rfl | hx
      · exact hp
      · exact h.pins x (by simp [hx])

/-! the search's place -/
theorem getLastD_map_append (A B : List Nat) (z : Nat) : (A ++ B).getLastD z = B.getLastD (A.getLastD z) := by
  induction A generalizing z with
  | nil => rfl
  | cons a A ih => rw [List.cons_append, List.getLastD_cons, List.getLastD_cons, ih]
/-- An entry that is taken out: the search begins ahead of it, if it began with it. -/
theorem Nx.del {z nx : Nat} {A B : List (Ent κ β)} {e : Ent κ β} (h : Nx z nx (A ++ e :: B)) (hz : z ∉ ids (A ++ e :: B)) (hn : (ids (A ++ e :: B)).Nodup) :
    Nx z (if nx = e.b then (ids A).getLastD z else nx) (A ++ B) := by
  obtain ⟨A1, B1, h1, h2, h3⟩ := h
  rcases List.append_eq_append_iff.1 h1 with ⟨C, hA, hC⟩ | ⟨C, hA, hC⟩
  · -- A1 = A ++ C, e :: B = C ++ B1
    cases C with
    | nil =>
      simp only [List.append_nil] at hA
      simp only [List.nil_append] at hC
      subst hA; subst hC
      refine ⟨A1, B, rfl, fun x hx => h2 x (List.mem_cons_of_mem _ hx), ?_⟩
      split
      · rfl
      · exact h3
    | cons x C =>
      rw [List.cons_append] at hC
      injection hC with hx hC
      subst hx; subst hA; subst hC
      rw [ids_append, getLastD_map_append] at h3
      show Nx z _ (A ++ (C ++ B1))
      refine ⟨A ++ C, B1, by simp, h2, ?_⟩
      rw [ids_append, getLastD_map_append]
      show _ = (ids C).getLastD _
      rw [show ids (e :: C) = e.b :: ids C from rfl, List.getLastD_cons] at h3
      have hne : e.b ∉ ids C := by
        rw [ids_append, show ids (e :: (C ++ B1)) = e.b :: ids (C ++ B1) from rfl] at hn
        have := (List.nodup_cons.1 (List.nodup_append.1 hn).2.1).1
        rw [ids_append] at this
        exact fun hc => this (List.mem_append_left _ hc)
      cases hC : ids C with
      | nil => rw [hC] at h3; simp only [List.getLastD_nil] at h3 ⊢; rw [if_pos h3]
      | cons a r =>
        rw [hC, List.getLastD_cons] at h3
        rw [List.getLastD_cons]
        have hm : nx ∈ ids C := by
          rw [h3, hC]
          rcases last_mem a r with e1 | e1
          · rw [e1]; exact List.mem_cons_self
          · exact List.mem_cons_of_mem _ e1
        have hnx : nx ≠ e.b := fun e1 => hne (by rw [← e1]; exact hm)
        rw [if_neg hnx, h3]
  · -- A = A1 ++ C, B1 = C ++ e :: B
    subst hA
    have hnx : nx ≠ e.b := by
      intro e1
      rcases last_mem z (ids A1) with e2 | e2
      · apply hz; rw [← e2, ← h3, e1]; simp [ids]
      · rw [← h3, e1] at e2
        rw [ids_append, ids_append] at hn
        exact (List.nodup_append.1 hn).2.2 e.b (List.mem_append_left _ e2) e.b List.mem_cons_self rfl
    rw [if_neg hnx]
    refine ⟨A1, C ++ B, by simp, fun x hx => h2 x ?_, h3⟩
    rw [hC]
    rcases List.mem_append.1 hx with hx | hx
    · exact List.mem_append_left _ hx
    · exact List.mem_append_right _ (List.mem_cons_of_mem _ hx)
/-- An entry that is put ahead of all: the search begins with it, if there was nowhere to begin. -/
theorem Nx.cons {z nx : Nat} {L : List (Ent κ β)} (h : Nx z nx L) (e : Ent κ β) (hz : z ∉ ids L) : Nx z (if nx = z then e.b else nx) (e :: L) := by
  obtain ⟨A, B, rfl, h2, h3⟩ := h
  refine ⟨e :: A, B, rfl, h2, ?_⟩
  rw [show ids (e :: A) = e.b :: ids A from rfl, List.getLastD_cons]
  cases hA : ids A with
  | nil => rw [hA] at h3; simp only [List.getLastD_nil] at h3 ⊢; rw [if_pos h3]
  | cons a r =>
    rw [hA, List.getLastD_cons] at h3
    rw [List.getLastD_cons, if_neg, h3]
    intro e1
    apply hz
    rw [← e1, h3, ids_append, hA]
    rcases last_mem a r with e2 | e2
    · rw [e2]; simp
    · exact List.mem_append_left _ (List.mem_cons_of_mem _ e2)
/-- One pin more: nothing turns. -/
theorem Nx.pin {z nx : Nat} {A B : List (Ent κ β)} {e f : Ent κ β} (h : Nx z nx (A ++ e :: B)) (hb : f.b = e.b) (hp : 0 < e.pins → 0 < f.pins) : Nx z nx (A ++ f :: B) := by
  obtain ⟨A1, B1, h1, h2, h3⟩ := h
  rcases List.append_eq_append_iff.1 h1 with ⟨C, hA, hC⟩ | ⟨C, hA, hC⟩
  · cases C with
    | nil =>
      simp only [List.append_nil] at hA
      simp only [List.nil_append] at hC
      subst hA; subst hC
      exact ⟨A1, f :: B, rfl, fun x hx => by
        rcases List.mem_cons.1 hx with rfl | hx
        · exact hp (h2 e List.mem_cons_self)
        · exact h2 x (List.mem_cons_of_mem _ hx), h3⟩
    | cons x C =>
      rw [List.cons_append] at hC
      injection hC with hx hC
      subst hx; subst hA; subst hC
      exact ⟨A ++ f :: C, B1, by simp, h2, by rw [h3]; simp [ids, hb]⟩
  · subst hA
    subst hC
    exact ⟨A1, C ++ f :: B, by simp, fun x hx => by
      rcases List.mem_append.1 hx with hx | hx
      · exact h2 x (List.mem_append_left _ hx)
      · rcases List.mem_cons.1 hx with rfl | hx
        · exact hp (h2 e (by simp))
        · exact h2 x (by simp [hx]), h3⟩
/-- The search's place, one step on: whoever stood there is pinned. -/
theorem Nx.step {z : Nat} {A B : List (Ent κ β)} {e : Ent κ β} (h2 : ∀ x ∈ B, 0 < x.pins) (hp : 0 < e.pins) : Nx z ((ids A).getLastD z) (A ++ e :: B) :=
  ⟨A, e :: B, rfl, fun x hx => by
    rcases List.mem_cons.1 hx with rfl | hx
    · exact hp
    · exact h2 x hx, rfl⟩
/-- The last pin of an entry goes: the search begins with it, if it is older than where it began. -/
theorem Nx.free {z nx : Nat} {c top : Int} {A B : List (Ent κ β)} {e f : Ent κ β} (h : Nx z nx (A ++ e :: B)) (ha : Aged c (A ++ e :: B)) (hz : z ∉ ids (A ++ e :: B)) (hb : f.b = e.b) (htop : c < top)
    (u : Int) (hu : (nx = z ∧ u = top) ∨ ∃ x ∈ A ++ e :: B, x.b = nx ∧ x.used = u) (hn : (ids (A ++ e :: B)).Nodup) : Nx z (if e.used < u then e.b else nx) (A ++ f :: B) := by
  obtain ⟨A1, B1, h1, h2, h3⟩ := h
  have hw := List.pairwise_append.1 ha.falls
  have hw2 := List.pairwise_cons.1 hw.2.1
  rcases List.append_eq_append_iff.1 h1 with ⟨C, hA, hC⟩ | ⟨C, hA, hC⟩
  · cases C with
    | nil =>
      -- all from e on are pinned: the search begins ahead of e
      simp only [List.append_nil] at hA
      simp only [List.nil_append] at hC
      subst hA; subst hC
      have hlt : e.used < u := by
        rcases hu with ⟨_, rfl⟩ | ⟨x, hx, hxb, rfl⟩
        · have := ha.most e (by simp); omega
        · have hxA : x ∈ A1 := by
            rcases last_mem z (ids A1) with e2 | e2
            · exact absurd (by rw [← e2, ← h3, ← hxb]; exact List.mem_map_of_mem hx) hz
            · rw [← h3] at e2
              obtain ⟨y, hy, hyb⟩ := List.mem_map.1 e2
              rcases List.mem_append.1 hx with hx | hx
              · exact hx
              · rw [ids_append] at hn
                exact absurd rfl ((List.nodup_append.1 hn).2.2 nx e2 nx (by rw [← hxb]; exact List.mem_map_of_mem hx))
          exact hw.2.2 x hxA e List.mem_cons_self
      rw [if_pos hlt]
      exact ⟨A1 ++ [f], B, by simp, fun x hx => h2 x (List.mem_cons_of_mem _ hx), by simp [ids, hb, List.getLastD_eq_getLast?]⟩
    | cons x C =>
      rw [List.cons_append] at hC
      injection hC with hx hC
      subst hx; subst hA; subst hC
      have hnx : nx = (e.b :: ids C).getLastD z := by
        rw [h3, ids_append, getLastD_map_append, show ids (e :: C) = e.b :: ids C from rfl, List.getLastD_cons, List.getLastD_cons]
      have hm : nx ∈ e.b :: ids C := by
        rw [hnx, List.getLastD_cons]
        rcases last_mem e.b (ids C) with e2 | e2
        · rw [e2]; exact List.mem_cons_self
        · exact List.mem_cons_of_mem _ e2
      have hle : ¬ e.used < u := by
        rcases hu with ⟨hzz, _⟩ | ⟨x, hx, hxb, rfl⟩
        · exact absurd (by rw [← hzz, ids_append]; refine List.mem_append_right _ ?_; rw [show ids (e :: (C ++ B1)) = e.b :: ids (C ++ B1) from rfl, ids_append]; rcases List.mem_cons.1 hm with h | h <;> simp [h]) hz
        · rcases List.mem_append.1 hx with hx | hx
          · rw [ids_append] at hn
            refine absurd rfl ((List.nodup_append.1 hn).2.2 nx (by rw [← hxb]; exact List.mem_map_of_mem hx) nx ?_)
            rw [show ids (e :: (C ++ B1)) = e.b :: ids (C ++ B1) from rfl, ids_append]
            rcases List.mem_cons.1 hm with h | h <;> simp [h]
          · rcases List.mem_cons.1 hx with rfl | hx
            · omega
            · have := hw2.1 x hx; omega
      rw [if_neg hle]
      refine ⟨A ++ f :: C, B1, by simp, h2, ?_⟩
      rw [hnx, ids_append, getLastD_map_append, show ids (f :: C) = f.b :: ids C from rfl, List.getLastD_cons, List.getLastD_cons, hb]
  · -- e stands behind where the search begins: all there are pinned
    subst hA
    subst hC
    have hlt : e.used < u := by
      rcases hu with ⟨_, rfl⟩ | ⟨x, hx, hxb, rfl⟩
      · have := ha.most e (by simp); omega
      · have hxA : x ∈ A1 := by
          rcases last_mem z (ids A1) with e2 | e2
          · exact absurd (by rw [← e2, ← h3, ← hxb]; exact List.mem_map_of_mem hx) hz
          · rw [← h3] at e2
            rw [List.append_assoc] at hx hn
            rcases List.mem_append.1 hx with hx | hx
            · exact hx
            · rw [ids_append] at hn
              exact absurd rfl ((List.nodup_append.1 hn).2.2 nx e2 nx (by rw [← hxb]; exact List.mem_map_of_mem hx))
        exact hw.2.2 x (List.mem_append_left _ hxA) e List.mem_cons_self
    rw [if_pos hlt]
    refine ⟨A1 ++ C ++ [f], B, by simp, fun x hx => h2 x (by simp [hx]), ?_⟩
    simp [ids, hb, List.getLastD_eq_getLast?]
end
end Go.Proofs.YthmfbcaidlgkbaaGreat.LruP
