/- The heap's pure part: items by their times, a tree in a list with a hole, and the places that a map holds. cmp.Compare of two ints, and cmp.Or of two. -/
import Derived.Maps.OwnSet
import Derived.Test.YtehnobcjoaclcaaGreatGB
import Derived.Test.YtehnobcjoaclcaaGreatBase
import Derived.LoopN
import Derived.Handy
namespace Go.Proofs.YtehnobcjoaclcaaGreat.HeapP
open Go Go.ChangeMaps Go.Maps

structure It (α : Type) where
  t : Int
  id : Int
  v : α
deriving Inhabited

variable {α : Type}

def le (x y : It α) : Prop := x.t < y.t ∨ (x.t = y.t ∧ x.id ≤ y.id)
def lt (x y : It α) : Prop := x.t < y.t ∨ (x.t = y.t ∧ x.id < y.id)
def cf (x y : It α) : Int := if x.t < y.t then -1 else if y.t < x.t then 1 else if x.id < y.id then -1 else if y.id < x.id then 1 else 0
theorem cf_neg (x y : It α) : cf x y < 0 ↔ lt x y := by unfold cf lt; repeat' split <;> omega
theorem le_of_not_lt {x y : It α} (h : ¬ lt x y) : le y x := by unfold le lt at *; omega
theorem lt_le {x y : It α} (h : lt x y) : le x y := by unfold le lt at *; omega
theorem le.trans {x y z : It α} (h : le x y) (k : le y z) : le x z := by unfold le at *; omega
theorem le.refl (x : It α) : le x x := by unfold le; omega
theorem lt_of {x y : It α} (h : ¬ cf x y < 0) : le y x := le_of_not_lt fun k => h ((cf_neg x y).2 k)

variable [Inhabited α]
def gt (l : List (It α)) (j : Nat) : It α := l.getD j default
theorem gt_set (l : List (It α)) (k j : Nat) (x : It α) (hk : k < l.length) : gt (l.set k x) j = if j = k then x else gt l j := by
  unfold gt
  rw [List.getD_eq_getElem?_getD, List.getD_eq_getElem?_getD, List.getElem?_set]
  by_cases h : k = j
  · subst h; simp [hk]
  · simp [h, Ne.symm h]
theorem gt_same (l : List (It α)) {k : Nat} (x : It α) (hk : k < l.length) : gt (l.set k x) k = x := by rw [gt_set _ _ _ _ hk, if_pos rfl]
theorem gt_other (l : List (It α)) {k j : Nat} (x : It α) (h : j ≠ k) : gt (l.set k x) j = gt l j := by
  by_cases hk : k < l.length
  · rw [gt_set _ _ _ _ hk, if_neg h]
  · rw [List.set_eq_of_length_le (by omega)]
theorem gt_elem (l : List (It α)) {k : Nat} (hk : k < l.length) : gt l k = l[k] := by unfold gt; simp [List.getD_eq_getElem?_getD, hk]
theorem gt_mem (l : List (It α)) {k : Nat} (hk : k < l.length) : gt l k ∈ l := by rw [gt_elem l hk]; exact List.getElem_mem hk

/-! ### the order, with a hole -/
def HO (l : List (It α)) (k : Nat) : Prop := ∀ i, 0 < i → i < l.length → i ≠ k → ((i - 1) / 2 ≠ k → le (gt l ((i - 1) / 2)) (gt l i)) ∧ ((i - 1) / 2 = k → 0 < k → le (gt l ((k - 1) / 2)) (gt l i))
def Down (l : List (It α)) (k : Nat) (x : It α) : Prop := ∀ i, 0 < i → i < l.length → (i - 1) / 2 = k → le x (gt l i)
def Heaped (l : List (It α)) : Prop := ∀ i, 0 < i → i < l.length → le (gt l ((i - 1) / 2)) (gt l i)
theorem Heaped.ho {l : List (It α)} (h : Heaped l) (k : Nat) : HO l k := fun i h0 hl hk =>
  ⟨fun _ => h i h0 hl, fun hp hk0 => by
    have h1 := h i h0 hl
    have h2 := h k hk0 (by omega)
    rw [hp] at h1
    exact h2.trans h1⟩
theorem Heaped.top {l : List (It α)} (h : Heaped l) : ∀ j, j < l.length → le (gt l 0) (gt l j) := by
  intro j
  induction j using Nat.strongRecOn with
  | ind j ih =>
    intro hj
    rcases Nat.eq_zero_or_pos j with h0 | h0
    · subst h0; exact le.refl _
    · exact (ih ((j - 1) / 2) (by omega) (by omega)).trans (h j h0 hj)
theorem HO.up {l : List (It α)} {k : Nat} (h : HO l k) (h0 : 0 < k) (hk : k < l.length) : HO (l.set k (gt l ((k - 1) / 2))) ((k - 1) / 2) := by
  intro i i0 il ip
  rw [List.length_set] at il
  have hpk : (k - 1) / 2 ≠ k := by omega
  by_cases hik : i = k
  · subst hik
    exact ⟨fun hn => absurd rfl hn, fun _ hp0 => by
      rw [gt_other _ _ (by omega : ((i - 1) / 2 - 1) / 2 ≠ i), gt_same _ _ hk]
      have := h ((i - 1) / 2) hp0 (by omega) (by omega)
      exact this.1 (by omega)⟩
  · obtain ⟨h1, h2⟩ := h i i0 il hik
    constructor
    · intro hn
      rw [gt_other _ _ hik]
      by_cases hpi : (i - 1) / 2 = k
      · rw [hpi, gt_same _ _ hk]; exact h2 hpi h0
      · rw [gt_other _ _ hpi]; exact h1 hpi
    · intro hpi hp0
      rw [gt_other _ _ hik, gt_other _ _ (by omega : ((k - 1) / 2 - 1) / 2 ≠ k)]
      have a := h1 (by omega)
      rw [hpi] at a
      have b := (h ((k - 1) / 2) hp0 (by omega) (by omega)).1 (by omega)
      exact b.trans a
theorem HO.up_down {l : List (It α)} {k : Nat} {x : It α} (h : HO l k) (h0 : 0 < k) (hk : k < l.length) (hx : le x (gt l ((k - 1) / 2))) : Down (l.set k (gt l ((k - 1) / 2))) ((k - 1) / 2) x := by
  intro i i0 il ip
  rw [List.length_set] at il
  by_cases hik : i = k
  · subst hik; rw [gt_same _ _ hk]; exact hx
  · rw [gt_other _ _ hik]
    have a := (h i i0 il hik).1 (by omega)
    rw [ip] at a
    exact hx.trans a
theorem HO.close {l : List (It α)} {k : Nat} {x : It α} (h : HO l k) (hk : k < l.length) (hu : 0 < k → le (gt l ((k - 1) / 2)) x) (hd : Down l k x) : Heaped (l.set k x) := by
  intro i i0 il
  rw [List.length_set] at il
  by_cases hik : i = k
  · subst hik
    rw [gt_same _ _ hk, gt_other _ _ (by omega)]
    exact hu i0
  · rw [gt_other _ _ hik]
    by_cases hpi : (i - 1) / 2 = k
    · rw [hpi, gt_same _ _ hk]; exact hd i i0 il hpi
    · rw [gt_other _ _ hpi]; exact (h i i0 il hik).1 hpi
/-- b is the least of the places below k. -/
def Least (l : List (It α)) (k b : Nat) : Prop := (b - 1) / 2 = k ∧ 0 < b ∧ ∀ i, 0 < i → i < l.length → (i - 1) / 2 = k → le (gt l b) (gt l i)
theorem HO.down {l : List (It α)} {k b : Nat} (h : HO l k) (hb : b < l.length) (hl : Least l k b) : HO (l.set k (gt l b)) b := by
  obtain ⟨hbk, hb0, hmin⟩ := hl
  have hk : k < l.length := by omega
  have hkb : b ≠ k := by omega
  intro i i0 il ib
  rw [List.length_set] at il
  by_cases hik : i = k
  · subst hik
    refine ⟨fun _ => ?_, fun hp => by omega⟩
    rw [gt_same _ _ hk, gt_other _ _ (by omega)]
    exact (h b hb0 hb hkb).2 hbk i0
  · obtain ⟨h1, h2⟩ := h i i0 il hik
    refine ⟨fun hn => ?_, fun hpi _ => ?_⟩
    · rw [gt_other _ _ hik]
      by_cases hpi : (i - 1) / 2 = k
      · rw [hpi, gt_same _ _ hk]; exact hmin i i0 il hpi
      · rw [gt_other _ _ hpi]; exact h1 hpi
    · rw [hbk, gt_same _ _ hk, gt_other _ _ hik]
      have a := h1 (by omega)
      rw [hpi] at a
      exact a

/-! ### places, and what is in it -/
def key (id : Int) : Lit := .int .i64 id
def Has (D : DataW Unit) (id j : Int) : Prop := Maps.has D (key id) = true ∧ D.atKey (key id) (.lit (.int .i64 0)) = .lit (.int .i64 j)
theorem key_ne {a b : Int} (h : a ≠ b) : key a ≠ key b := by unfold key; intro e; injection e with _ e; exact h e
theorem isKey (a : Int) : WideAt.IsKeyLit (key a) := by unfold key; trivial
theorem Has.inj {D : DataW Unit} {id a b : Int} (h : Has D id a) (k : Has D id b) : a = b := by
  have := h.2.symm.trans k.2
  injection this with e; injection e with _ e
theorem Has.put_same {D : DataW Unit} (hD : IsMap D) (id j : Int) : Has (D.put (key id) (.lit (.int .i64 j))) id j :=
  ⟨has_put_same hD (isKey id) _, atKey_put_same hD (isKey id) _ _⟩
theorem Has.put_other {D : DataW Unit} {id id' j j' : Int} (h : Has D id j) (hn : id ≠ id') : Has (D.put (key id') (.lit (.int .i64 j'))) id j :=
  ⟨(has_put_other (key_ne hn) _).trans h.1, (atKey_put_other (key_ne hn) _ _).trans h.2⟩
theorem Has.del_other {D : DataW Unit} {id id' j : Int} (h : Has D id j) (hn : id ≠ id') : Has (D.del (key id')) id j :=
  ⟨(has_del_other (key_ne hn)).trans h.1, (atKey_del_other (key_ne hn) _).trans h.2⟩

structure Hole (l : List (It α)) (D : DataW Unit) (k : Nat) (x : It α) (B : It α → Prop) : Prop where
  lt : k < l.length
  im : IsMap D
  ho : HO l k
  pl : ∀ j, j < l.length → j ≠ k → Has D (gt l j).id j ∧ (gt l j).id ≠ x.id
  off : ∀ id, id ≠ x.id → (∀ j, j < l.length → j ≠ k → (gt l j).id ≠ id) → Maps.has D (key id) = false
  mem : ∀ y, B y ↔ (y = x ∨ ∃ j, j < l.length ∧ j ≠ k ∧ gt l j = y)
structure Full (l : List (It α)) (D : DataW Unit) (B : It α → Prop) : Prop where
  im : IsMap D
  ho : Heaped l
  pl : ∀ j, j < l.length → Has D (gt l j).id j
  off : ∀ id, (∀ j, j < l.length → (gt l j).id ≠ id) → Maps.has D (key id) = false
  mem : ∀ y, B y ↔ ∃ j, j < l.length ∧ gt l j = y

variable {l : List (It α)} {D : DataW Unit} {k b : Nat} {x : It α} {B : It α → Prop}

/-- The item at b moves into the hole: b is the hole. -/
theorem Hole.move (h : Hole l D k x B) (hb : b < l.length) (hbk : b ≠ k) (ho : HO (l.set k (gt l b)) b) : Hole (l.set k (gt l b)) (D.put (key (gt l b).id) (.lit (.int .i64 k))) b x B := by
  have hpl := h.pl b hb hbk
  have hne : ∀ j, j < l.length → j ≠ k → j ≠ b → (gt l j).id ≠ (gt l b).id := fun j hj hjk hjb e => by
    have a := (h.pl j hj hjk).1
    rw [e] at a
    exact hjb (by have := a.inj hpl.1; omega)
  refine ⟨by simpa using hb, h.im.put _ _, ho, fun j hj hjb => ?_, fun id hid hoff => ?_, fun y => ?_⟩
  · rw [List.length_set] at hj
    by_cases hjk : j = k
    · subst hjk
      rw [gt_same _ _ h.lt]
      exact ⟨Has.put_same h.im _ _, hpl.2⟩
    · rw [gt_other _ _ hjk]
      exact ⟨(h.pl j hj hjk).1.put_other (hne j hj hjk hjb), (h.pl j hj hjk).2⟩
  · have hk1 := hoff k (by simpa using h.lt) (by omega)
    rw [gt_same _ _ h.lt] at hk1
    rw [has_put_other (key_ne (Ne.symm hk1))]
    refine h.off id hid fun j hj hjk => ?_
    by_cases hjb : j = b
    · subst hjb; exact hk1
    · have := hoff j (by simpa using hj) hjb
      rwa [gt_other _ _ hjk] at this
  · rw [h.mem y]
    constructor
    · rintro (rfl | ⟨j, hj, hjk, e⟩)
      · exact .inl rfl
      · by_cases hjb : j = b
        · subst hjb
          exact .inr ⟨k, by simpa using h.lt, by omega, by rw [gt_same _ _ h.lt]; exact e⟩
        · exact .inr ⟨j, by simpa using hj, hjb, by rw [gt_other _ _ hjk]; exact e⟩
    · rintro (rfl | ⟨j, hj, hjb, e⟩)
      · exact .inl rfl
      · rw [List.length_set] at hj
        by_cases hjk : j = k
        · subst hjk
          rw [gt_same _ _ h.lt] at e
          exact .inr ⟨b, hb, hbk, e⟩
        · rw [gt_other _ _ hjk] at e
          exact .inr ⟨j, hj, hjk, e⟩
theorem Hole.up (h : Hole l D k x B) (h0 : 0 < k) : Hole (l.set k (gt l ((k - 1) / 2))) (D.put (key (gt l ((k - 1) / 2)).id) (.lit (.int .i64 k))) ((k - 1) / 2) x B :=
  h.move (by have := h.lt; omega) (by omega) (h.ho.up h0 h.lt)
theorem Hole.down (h : Hole l D k x B) (hb : b < l.length) (hl : Least l k b) : Hole (l.set k (gt l b)) (D.put (key (gt l b).id) (.lit (.int .i64 k))) b x B :=
  h.move hb (by have := hl.1; have := hl.2.1; omega) (h.ho.down hb hl)
theorem Hole.close (h : Hole l D k x B) (hu : 0 < k → le (gt l ((k - 1) / 2)) x) (hd : Down l k x) : Full (l.set k x) (D.put (key x.id) (.lit (.int .i64 k))) B := by
  refine ⟨h.im.put _ _, h.ho.close h.lt hu hd, fun j hj => ?_, fun id hoff => ?_, fun y => ?_⟩
  · rw [List.length_set] at hj
    by_cases hjk : j = k
    · subst hjk; rw [gt_same _ _ h.lt]; exact Has.put_same h.im _ _
    · rw [gt_other _ _ hjk]; exact (h.pl j hj hjk).1.put_other (h.pl j hj hjk).2
  · have hk1 := hoff k (by simpa using h.lt)
    rw [gt_same _ _ h.lt] at hk1
    rw [has_put_other (key_ne (Ne.symm hk1))]
    refine h.off id (Ne.symm hk1) fun j hj hjk => ?_
    have := hoff j (by simpa using hj)
    rwa [gt_other _ _ hjk] at this
  · rw [h.mem y]
    constructor
    · rintro (rfl | ⟨j, hj, hjk, e⟩)
      · exact ⟨k, by simpa using h.lt, gt_same _ _ h.lt⟩
      · exact ⟨j, by simpa using hj, by rw [gt_other _ _ hjk]; exact e⟩
    · rintro ⟨j, hj, e⟩
      rw [List.length_set] at hj
      by_cases hjk : j = k
      · subst hjk; rw [gt_same _ _ h.lt] at e; exact .inl e.symm
      · rw [gt_other _ _ hjk] at e; exact .inr ⟨j, hj, hjk, e⟩
/-- The item that stands in the hole may be put in, and the hole opened again. -/
theorem Hole.set (h : Hole l D k x B) : Hole (l.set k x) (D.put (key x.id) (.lit (.int .i64 k))) k x B := by
  refine ⟨by simpa using h.lt, h.im.put _ _, fun i i0 il ik => ?_, fun j hj hjk => ?_, fun id hid hoff => ?_, fun y => ?_⟩
  · rw [List.length_set] at il
    obtain ⟨h1, h2⟩ := h.ho i i0 il ik
    rw [gt_other _ _ ik]
    refine ⟨fun hn => ?_, fun hp h0 => ?_⟩
    · rw [gt_other _ _ hn]; exact h1 hn
    · rw [gt_other _ _ (by omega)]; exact h2 hp h0
  · rw [List.length_set] at hj
    rw [gt_other _ _ hjk]
    exact ⟨(h.pl j hj hjk).1.put_other (h.pl j hj hjk).2, (h.pl j hj hjk).2⟩
  · rw [has_put_other (key_ne hid)]
    refine h.off id hid fun j hj hjk => ?_
    have := hoff j (by simpa using hj) hjk
    rwa [gt_other _ _ hjk] at this
  · rw [h.mem y]
    refine or_congr Iff.rfl ⟨?_, ?_⟩
    · rintro ⟨j, hj, hjk, e⟩; exact ⟨j, by simpa using hj, hjk, by rw [gt_other _ _ hjk]; exact e⟩
    · rintro ⟨j, hj, hjk, e⟩; rw [gt_other _ _ hjk] at e; exact ⟨j, by simpa using hj, hjk, e⟩
theorem Down.set (h : Down l k x) (y : It α) : Down (l.set k y) k x := fun i i0 il ip => by
  rw [List.length_set] at il
  rw [gt_other _ _ (by omega)]
  exact h i i0 il ip
/-- A new item behind the last. -/
theorem Full.push (h : Full l D B) (hn : ∀ y, B y → y.id ≠ x.id) : Hole (l ++ [x]) D l.length x (fun y => y = x ∨ B y) ∧ Down (l ++ [x]) l.length x := by
  have hg : ∀ j, j < l.length → gt (l ++ [x]) j = gt l j := fun j hj => by unfold gt; simp [List.getD_eq_getElem?_getD, List.getElem?_append, hj]
  have hlen : (l ++ [x]).length = l.length + 1 := by simp
  refine ⟨⟨by omega, h.im, fun i i0 il ik => ⟨fun hp => ?_, fun hp => by omega⟩, fun j hj hjk => ?_, fun id hid hoff => ?_, fun y => ?_⟩, fun i i0 il ip => by omega⟩
  · rw [hg _ (by omega), hg _ (by omega)]
    exact h.ho i i0 (by omega)
  · rw [hg _ (by omega)]
    exact ⟨h.pl j (by omega), hn _ ((h.mem _).2 ⟨j, by omega, rfl⟩)⟩
  · refine h.off id fun j hj => ?_
    have := hoff j (by omega) (by omega)
    rwa [hg _ hj] at this
  · rw [h.mem y]
    refine or_congr Iff.rfl ⟨?_, ?_⟩
    · rintro ⟨j, hj, e⟩; exact ⟨j, by omega, by omega, by rw [hg _ hj]; exact e⟩
    · rintro ⟨j, hj, hjk, e⟩; rw [hg _ (by omega)] at e; exact ⟨j, by omega, e⟩
theorem Full.distinct (h : Full l D B) {i j : Nat} (hi : i < l.length) (hj : j < l.length) (e : (gt l i).id = (gt l j).id) : i = j := by
  have a := h.pl i hi
  rw [e] at a
  have := a.inj (h.pl j hj)
  omega
theorem gt_take (l : List (It α)) {n j : Nat} (hj : j < n) : gt (l.take n) j = gt l j := by
  unfold gt; simp [List.getD_eq_getElem?_getD, hj]
/-- The last one goes. -/
theorem Full.pop (h : Full l D B) (hl : l.length = b + 1) : Full (l.take b) (D.del (key (gt l b).id)) (fun y => B y ∧ y.id ≠ (gt l b).id) := by
  have hlen : (l.take b).length = b := by simp; omega
  have hmem : ∀ j, j < b → (gt l j).id ≠ (gt l b).id := fun j hj e => by have := h.distinct (by omega) (by omega) e; omega
  have him : IsMap (D.del (key (gt l b).id)) := h.im.del _
  refine ⟨him, fun i i0 il => ?_, fun j hj => ?_, fun id hoff => ?_, fun y => ?_⟩
  · rw [gt_take _ (by omega), gt_take _ (by omega)]; exact h.ho i i0 (by omega)
  · rw [hlen] at hj
    rw [gt_take _ hj]
    exact (h.pl j (by omega)).del_other (hmem j hj)
  · by_cases e : id = (gt l b).id
    · subst e; exact has_del_same
    · rw [has_del_other (key_ne e)]
      refine h.off id fun j hj => ?_
      by_cases hjb : j = b
      · subst hjb; exact Ne.symm e
      · have := hoff j (by omega)
        rwa [gt_take _ (by omega)] at this
  · rw [h.mem y]
    constructor
    · rintro ⟨⟨j, hj, e⟩, hne⟩
      have : j ≠ b := fun e' => hne (by rw [← e, e'])
      exact ⟨j, by omega, by rw [gt_take _ (by omega)]; exact e⟩
    · rintro ⟨j, hj, e⟩
      rw [hlen] at hj
      rw [gt_take _ hj] at e
      exact ⟨⟨j, by omega, e⟩, by rw [← e]; exact hmem j hj⟩
/-- One that is not the last goes; the last comes to its place, which is a hole. -/
theorem Full.out (h : Full l D B) (hl : l.length = b + 1) (hk : k < b) :
    Hole ((l.take b).set k (gt l b)) (D.del (key (gt l k).id)) k (gt l b) (fun y => B y ∧ y.id ≠ (gt l k).id) := by
  have hlen : ((l.take b).set k (gt l b)).length = b := by simp; omega
  have hlt : (l.take b).length = b := by simp; omega
  have hg : ∀ j, j < b → j ≠ k → gt ((l.take b).set k (gt l b)) j = gt l j := fun j hj hjk => by rw [gt_other _ _ hjk, gt_take _ hj]
  have hne : ∀ i j, i < b + 1 → j < b + 1 → i ≠ j → (gt l i).id ≠ (gt l j).id := fun i j hi hj hij e => hij (h.distinct (by omega) (by omega) e)
  refine ⟨by omega, h.im.del _, fun i i0 il ik => ⟨fun hp => ?_, fun hp h0 => ?_⟩, fun j hj hjk => ?_, fun id hid hoff => ?_, fun y => ?_⟩
  · rw [hg _ (by omega) hp, hg _ (by omega) ik]; exact h.ho i i0 (by omega)
  · rw [hg _ (by omega) (by omega), hg _ (by omega) ik]
    exact ((h.ho.ho k) i i0 (by omega) ik).2 hp h0
  · rw [hlen] at hj
    rw [hg _ hj hjk]
    exact ⟨(h.pl j (by omega)).del_other (hne j k (by omega) (by omega) hjk), hne j b (by omega) (by omega) (by omega)⟩
  · by_cases e : id = (gt l k).id
    · subst e; exact has_del_same
    · rw [has_del_other (key_ne e)]
      refine h.off id fun j hj => ?_
      by_cases hjb : j = b
      · subst hjb; exact Ne.symm hid
      · by_cases hjk : j = k
        · subst hjk; exact Ne.symm e
        · have := hoff j (by omega) hjk
          rwa [hg _ (by omega) hjk] at this
  · rw [h.mem y]
    constructor
    · rintro ⟨⟨j, hj, e⟩, hn⟩
      by_cases hjb : j = b
      · subst hjb; exact .inl e.symm
      · have hjk : j ≠ k := fun e' => hn (by rw [← e, e'])
        exact .inr ⟨j, by omega, hjk, by rw [hg _ (by omega) hjk]; exact e⟩
    · rintro (rfl | ⟨j, hj, hjk, e⟩)
      · exact ⟨⟨b, by omega, rfl⟩, hne b k (by omega) (by omega) (by omega)⟩
      · rw [hlen] at hj
        rw [hg _ hj hjk] at e
        exact ⟨⟨j, by omega, e⟩, by rw [← e]; exact hne j k (by omega) (by omega) hjk⟩
theorem Full.none (hD : IsMap D) (hd : ∀ id, Maps.has D (key id) = false) : Full ([] : List (It α)) D (fun _ => False) :=
  ⟨hD, fun i _ h => by simp at h, fun j h => by simp at h, fun id _ => hd id, fun y => by simp⟩
theorem Full.iff {B' : It α → Prop} (h : Full l D B) (hb : ∀ y, B' y ↔ B y) : Full l D B' := ⟨h.im, h.ho, h.pl, h.off, fun y => (hb y).trans (h.mem y)⟩
theorem Hole.iff {B' : It α → Prop} (h : Hole l D k x B) (hb : ∀ y, B' y ↔ B y) : Hole l D k x B' := ⟨h.lt, h.im, h.ho, h.pl, h.off, fun y => (hb y).trans (h.mem y)⟩

end Go.Proofs.YtehnobcjoaclcaaGreat.HeapP
namespace Go.Proofs.YtehnobcjoaclcaaGreat
open Go Go.RowKit
set_option maxRecDepth 100000
set_option maxHeartbeats 1000000
set_option linter.unusedSimpArgs false

theorem isNaN_int (a : Int) (w : World) : Calls Tryz.prog 144 #[.int .i64 a] w fun e w' => e = .returned (.bool false) ∧ w = w' := by
  go_enter Tryz.func144, Tryz.ntmps144
  go_wp2
  go_ret
  exact ⟨rfl, rfl⟩
def cmpInt (a b : Int) : Int := if a < b then -1 else if b < a then 1 else 0
theorem compare_int (a b : Int) (w : World) : Calls Tryz.prog 103 #[.int .i64 a, .int .i64 b] w fun e w' => e = .returned (.int .i64 (cmpInt a b)) ∧ w = w' := by
  rcases Int.lt_trichotomy a b with h | h | h
  · have d1 : decide (a < b) = true := by simp [h]
    have hr : cmpInt a b = -1 := by simp [cmpInt, h]
    rw [hr]
    go_enter Tryz.func103, Tryz.ntmps103
    go_wp2_with fail
    refine (isNaN_int a w).mono ?_
    rintro e w' ⟨rfl, rfl⟩
    go_wp2_with fail
    refine (isNaN_int b w).mono ?_
    rintro e w' ⟨rfl, rfl⟩
    go_wp2
    go_ret
    exact ⟨rfl, rfl⟩
  · subst h
    have hr : cmpInt a a = 0 := by simp [cmpInt]
    rw [hr]
    have d1 : decide (a < a) = false := by simp
    go_enter Tryz.func103, Tryz.ntmps103
    go_wp2_with fail
    refine (isNaN_int a w).mono ?_
    rintro e w' ⟨rfl, rfl⟩
    go_wp2_with fail
    refine (isNaN_int a w).mono ?_
    rintro e w' ⟨rfl, rfl⟩
    go_wp2
    go_ret
    exact ⟨rfl, rfl⟩
  · have d1 : decide (a < b) = false := by simp; omega
    have d2 : decide (b < a) = true := by simp [h]
    have d3 : decide (a > b) = true := by simp [h]
    have hr : cmpInt a b = 1 := by unfold cmpInt; rw [if_neg (by omega), if_pos h]
    rw [hr]
    go_enter Tryz.func103, Tryz.ntmps103
    go_wp2_with fail
    refine (isNaN_int a w).mono ?_
    rintro e w' ⟨rfl, rfl⟩
    go_wp2_with fail
    refine (isNaN_int b w).mono ?_
    rintro e w' ⟨rfl, rfl⟩
    go_wp2
    go_ret
    exact ⟨rfl, rfl⟩
theorem cf_or {α : Type} (x y : HeapP.It α) : HeapP.cf x y = if cmpInt x.t y.t = 0 then cmpInt x.id y.id else cmpInt x.t y.t := by
  unfold HeapP.cf cmpInt
  rcases Int.lt_trichotomy x.t y.t with h | h | h
  · simp [h]
  · simp [h]
  · have : ¬ x.t < y.t := by omega
    simp [h, this]

end Go.Proofs.YtehnobcjoaclcaaGreat
