/- commonsbook's book, of whatever kinds lists are kept: what a kind's lists do while the book is looked through. -/
import Derived.Test.YtehnobcjoaclcaaGreatGD
import Derived.Test.YtehnobcjoaclcaaGreatGB
namespace Go.Proofs.YtehnobcjoaclcaaGreat
open Go Go.RowKit
set_option maxRecDepth 100000
set_option maxHeartbeats 1000000
set_option linter.unusedSimpArgs false

/-- append's run onto such a row: the row itself stays what it was, too. -/
theorem appendAt_keep {P : Program} {w : World} {base : Nat} {t tx e : TypeId} {z : Value} {size bytes : Nat} (he : Elem P t e z size bytes) {v : Value} {n : Nat} {xs : List Value} (hown : RowAt w base e size v n xs)
    {x : Value} {m : Nat} {news : List Value} (hs : Src P size tx x m news w) (ty : TypeId) (hm : n + m ≤ maxLen) (hb : (n + m) * bytes ≤ 140737488355328) (hbase : base ≤ w.heap.size) :
    ∃ v' w', (Builtin.append_ #[t, tx] ty #[v, x]).run P w = .ok v' w' ∧ RowAt w' base e size v' (n + m) (xs ++ news) ∧ w.grownBy w' v.ownBlock ∧ (v'.ownBlock = v.ownBlock ∨ v'.ownBlock = some w.heap.size) ∧ RowAt w' base e size v n xs := by
  rcases hown.2 with ⟨rfl, rfl⟩ | ⟨g, o, cap, cur, rfl, hbg, hg, hnc, hcm, hcs, htake⟩
  · obtain rfl : xs = [] := List.eq_nil_of_length_eq_zero (by simpa using hown.1)
    obtain ⟨v', w', h1, h2, h3, h4⟩ := append_src he (World.ownsRow_nil w base e size) hs ty hm hb hbase
    exact ⟨v', w', h1, RowAt.ofOwn h2, h3, h4, RowAt.nil _ _ _ _⟩
  · obtain ⟨i0, hi, hz0, rfl, rfl⟩ := info_parts he.info
    have hmx : maxLen = 9223372036854775807 := by decide
    have ht := he.slice
    have hpos := he.pos
    have hlen : (xs ++ news).length = (n + m) * i0.size := by rw [List.length_append, hown.1, hs.newsLen, Nat.add_mul]
    have hadd : ∀ j, (⟨g, o, none⟩ : Addr).add j = ⟨g, o + j, none⟩ := fun j => by unfold Addr.add; split <;> simp_all
    by_cases hroom : n + m ≤ cap
    · have hle : (n + m) * i0.size ≤ cap * i0.size := Nat.mul_le_mul_right _ hroom
      have hst := run_storeCells_at P g (o + n * i0.size) e news 0 cur w hg (by rw [hs.newsLen, Nat.add_zero, Nat.add_assoc, ← Nat.add_mul]; omega) hs.one
      have hl := hs.len
      have hc := hs.cells
      have hr : (Builtin.append_ #[t, tx] ty #[.slice (some ⟨g, o, none⟩) n cap, x]).run P w = .ok (.slice (some ⟨g, o, none⟩) (n + m) cap) (w.setRow g (cur.toList.take (o + n * i0.size + 0) ++ news ++ cur.toList.drop (o + n * i0.size + 0 + news.length)).toArray) := by
        rcases hs.kind with ⟨e', hk⟩ | hk <;> simp [Builtin.append_, run_underlying ht, run_underlying hk, sizeOf, typeInfo, hi, hl, hroom, hc, hadd] <;> rw [hst] <;> simp
      rw [Nat.add_mul] at hle
      have hxl := hown.1
      have hnl := hs.newsLen
      refine ⟨_, _, hr, ⟨hlen, .inr ⟨g, o, cap, _, rfl, hbg, setRow_heap w g cur _ _ _ hg, hroom, hcm, ?_, ?_⟩⟩, ⟨rfl, rfl, rfl, by simp [World.setRow], fun k _ hk => setRow_other w g k _ (fun e => hk (by simp [e, Value.ownBlock]))⟩, .inl rfl, hxl, .inr ⟨g, o, cap, _, rfl, hbg, setRow_heap w g cur _ _ _ hg, hnc, hcm, ?_, ?_⟩⟩
      · simp only [List.size_toArray, List.length_append, List.length_take, List.length_drop, Array.length_toList, hs.newsLen, Nat.add_zero]
        omega
      · have hcur : cur.toList.length = cur.size := Array.length_toList
        rw [Nat.add_zero, List.append_assoc, List.drop_append, List.drop_take, show o - (cur.toList.take (o + n * i0.size)).length = 0 by rw [List.length_take]; omega, List.drop_zero, show o + n * i0.size - o = n * i0.size by omega, htake, ← List.append_assoc, Nat.add_mul,
          List.take_append_of_le_length (Nat.le_of_eq (by rw [List.length_append, hxl, hnl])), List.take_of_length_le (Nat.le_of_eq (by rw [List.length_append, hxl, hnl]))]
      · simp only [List.size_toArray, List.length_append, List.length_take, List.length_drop, Array.length_toList, hs.newsLen, Nat.add_zero]
        omega
      · have hcur : cur.toList.length = cur.size := Array.length_toList
        have h9 : xs.length ≤ n * i0.size := Nat.le_of_eq hxl
        rw [Nat.add_zero, List.append_assoc, List.drop_append, List.drop_take, show o - (cur.toList.take (o + n * i0.size)).length = 0 by rw [List.length_take]; omega, List.drop_zero, show o + n * i0.size - o = n * i0.size by omega, htake,
          List.take_append_of_le_length (Nat.le_of_eq hxl.symm), List.take_of_length_le h9]
    · obtain ⟨A, cap', hv, _, _, _, hcells⟩ := hown.form
      simp only [Value.slice.injEq, true_and] at hv
      obtain ⟨rfl, rfl⟩ := hv
      obtain ⟨_, _, holds, _⟩ := hcells g o rfl
      have hf := run_firstCells_some (P := P) w.drew i0.size n ⟨g, o, none⟩ n cap xs hown.1 (fun j u hu => by rw [hadd]; exact holds j u hu)
      have hge := grownCap_ge w (n + m) cap e
      have hcm2 : grownCap w (n + m) cap e ≤ maxLen := grownCap_le_maxLen w (n + m) cap e hm
      have hr := run_append_grow_src (P := P) w t tx ty e i0 z ht hi hz0 (some ⟨g, o, none⟩) n cap xs hf x m news hs (by omega) (by omega) (growslice_fits (by omega) hb)
      refine ⟨_, _, hr, ⟨hlen, .inr ⟨w.heap.size, 0, _, _, rfl, hbase, heap_alloc_new w.drew _, hge, hcm2, ?_, ?_⟩⟩, ⟨rfl, rfl, rfl, by simp, fun k hk _ => Below.heap_alloc w.drew _ k hk⟩, .inr rfl, RowAt.keep hown fun k hk => Below.heap_alloc w.drew _ k (hown.lt k hk).2⟩
      · rw [Array.size_append, List.size_toArray, hlen, size_zeroCells, he.zero, ← Nat.add_mul, Nat.zero_add]
        exact Nat.le_of_eq (by congr 1; omega)
      · rw [List.drop_zero, Array.toList_append, ← hlen]
        exact List.take_left
/-- A cell of a row is set. -/
theorem RowAt.put {w : World} {base : Nat} {e : TypeId} {size g o n cap : Nat} {xs : List Value} (h : RowAt w base e size (.slice (some ⟨g, o, none⟩) n cap) n xs) (q : Nat) (_hq : q < n * size) (u : Value) :
    RowAt (w.setCell ⟨g, o + q, none⟩ u) base e size (.slice (some ⟨g, o, none⟩) n cap) n (xs.set q u) := by
  refine ⟨by rw [List.length_set]; exact h.1, ?_⟩
  rcases h.2 with ⟨h1, _⟩ | ⟨g', o', cap', cur, e1, hb, hg, h1, h2, h3, h4⟩
  · cases h1
  · simp only [Value.slice.injEq, Option.some.injEq, Addr.mk.injEq, and_true] at e1
    obtain ⟨⟨rfl, rfl⟩, _, rfl⟩ := e1
    refine .inr ⟨g, o, cap, _, rfl, hb, Sits.put hg (o + q) u, h1, h2, by rw [Array.size_setIfInBounds]; exact h3, ?_⟩
    rw [Array.toList_setIfInBounds, List.drop_set, if_neg (by omega), List.take_set, h4, Nat.add_sub_cancel_left]
/-- A list's first ones. -/
theorem RowAt.front {w : World} {base : Nat} {e : TypeId} {size n m cap : Nat} {A : Option Addr} {xs ys : List Value} (h : RowAt w base e size (.slice A (n + m) cap) (n + m) (xs ++ ys)) (hx : xs.length = n * size) (hA : A = none → cap = 0) : RowAt w base e size (.slice A n cap) n xs := by
  refine ⟨hx, ?_⟩
  rcases h.2 with ⟨h1, h2⟩ | ⟨g', o', cap', cur, e1, hb, hg, h1, h2, h3, h4⟩
  · simp only [Value.slice.injEq] at h1
    obtain ⟨rfl, _, rfl⟩ := h1
    obtain rfl : n = 0 := by omega
    exact .inl ⟨rfl, rfl⟩
  · simp only [Value.slice.injEq, true_and] at e1
    obtain ⟨rfl, rfl⟩ := e1
    refine .inr ⟨g', o', cap, cur, rfl, hb, hg, by omega, h2, h3, ?_⟩
    have h5 := congrArg (List.take (n * size)) h4
    rw [List.take_take, Nat.min_eq_left (Nat.mul_le_mul_right size (Nat.le_add_right n m)), List.take_append_of_le_length (Nat.le_of_eq hx.symm), List.take_of_length_le (Nat.le_of_eq hx)] at h5
    exact h5
theorem Many.empty {w w' : World} (h : Below w.heap.size w w') (T : Nat → Prop) : Many T w w' := (Many.refl T w).then h
theorem Many.kept {w w' : World} {T : Nat → Prop} {base : Nat} {e : TypeId} {size : Nat} {v : Value} {n : Nat} {xs : List Value} (hm : Many T w w') (h : RowAt w base e size v n xs) (ht : ∀ k, v.ownBlock = some k → ¬ T k) : RowAt w' base e size v n xs :=
  h.keep fun k hk => hm.block k (h.lt k hk).2 (ht k hk)
/-- What a kind's lists do while a book is looked through: S are the blocks that may turn, D those that it looks at; A: nothing has turned; B: marks stand; G: a list of lists that grew. -/
structure KindOk (p : Nat) (w0 : World) (fs fp fg fm : Nat) (v : Value) (e : TypeId) (ds : List TypeId) where
  S : Nat → Prop
  D : Nat → Prop
  A : World → Prop
  B : World → Prop
  G : World → Value → Prop
  typS : ∀ k, S k → ∃ cs, Sits w0 k e cs
  typD : ∀ k, D k → ∃ t cs, t ∈ ds ∧ Sits w0 k t cs
  start : A w0
  keep : ∀ (T : Nat → Prop) (W W' : World), (∀ k, T k → k < w0.heap.size ∧ ¬ D k) → w0.heap.size ≤ W.heap.size → Many T W W' → (A W → A W') ∧ (B W → B W') ∧ ∀ u, G W u → G W' u
  still : ∀ W, A W → Calls Tryz.prog fs #[.pointer (some ⟨p, 0, none⟩)] W fun x w' => x = .returned (.bool true) ∧ ∃ n, w' = W.drewN n
  put : ∀ W, w0.heap.size ≤ W.heap.size → A W → Calls Tryz.prog fp #[.pointer (some ⟨p, 0, none⟩)] W fun x w' => x = .returned (.tuple #[]) ∧ Many S W w' ∧ B w'
  grow : ∀ W, w0.heap.size ≤ W.heap.size → B W → Calls Tryz.prog fg #[.pointer (some ⟨p, 0, none⟩)] W fun x w' => ∃ a n c, x = .returned (.slice a n c) ∧ Many S W w' ∧ B w' ∧ G w' (.slice a n c)
  marked : ∀ W u, G W u → Calls Tryz.prog fm #[u] W fun x w' => x = .returned (.bool true) ∧ Below W.heap.size W w'
  markedB : ∀ W, B W → Calls Tryz.prog fm #[v] W fun x w' => x = .returned (.bool true) ∧ Below W.heap.size W w'
/-- A kind of which no list is kept. -/
def nilKind (p : Nat) (w0 : World) (fs fp fg fm c : Nat) (hp : ∃ cs, Sits w0 p 41 cs) (hc : w0.cell? ⟨p, c, none⟩ = some (.slice none 0 0))
    (h1 : ∀ w : World, w.cell? ⟨p, c, none⟩ = some (.slice none 0 0) → Calls Tryz.prog fs #[.pointer (some ⟨p, 0, none⟩)] w fun e w' => e = .returned (.bool true) ∧ w = w')
    (h2 : ∀ w : World, w.cell? ⟨p, c, none⟩ = some (.slice none 0 0) → Calls Tryz.prog fp #[.pointer (some ⟨p, 0, none⟩)] w fun e w' => e = .returned (.tuple #[]) ∧ w = w')
    (h3 : ∀ w : World, w.cell? ⟨p, c, none⟩ = some (.slice none 0 0) → Calls Tryz.prog fg #[.pointer (some ⟨p, 0, none⟩)] w fun e w' => e = .returned (.slice none 0 0) ∧ w = w')
    (h4 : ∀ w : World, Calls Tryz.prog fm #[.slice none 0 0] w fun e w' => e = .returned (.bool true) ∧ w = w') : KindOk p w0 fs fp fg fm (.slice none 0 0) 0 [41] where
  S := fun _ => False
  D := fun k => k = p
  A := fun W => W.cell? ⟨p, c, none⟩ = some (.slice none 0 0) ∧ p < W.heap.size
  B := fun W => W.cell? ⟨p, c, none⟩ = some (.slice none 0 0) ∧ p < W.heap.size
  G := fun _ u => u = .slice none 0 0
  typS := fun _ h => h.elim
  typD := fun k h => by subst h; obtain ⟨cs, hs⟩ := hp; exact ⟨_, cs, List.mem_singleton.2 rfl, hs⟩
  start := ⟨hc, by obtain ⟨cs, hs⟩ := hp; exact hs.lt⟩
  keep := fun T W W' hT hW hm => by
    have hcell : W.cell? ⟨p, c, none⟩ = some (.slice none 0 0) ∧ p < W.heap.size → W'.cell? ⟨p, c, none⟩ = some (.slice none 0 0) ∧ p < W'.heap.size := fun ⟨h, hl⟩ =>
      ⟨(World.cell?_of_block (hm.block p hl fun e => (hT p e).2 rfl)).trans h, Nat.lt_of_lt_of_le hl hm.size⟩
    exact ⟨hcell, hcell, fun u h => h⟩
  still := fun W h => (h1 W h.1).mono fun e w' ⟨he, hw⟩ => ⟨he, 0, hw.symm⟩
  put := fun W _ h => (h2 W h.1).mono fun e w' ⟨he, hw⟩ => ⟨he, hw ▸ Many.refl _ _, hw ▸ h⟩
  grow := fun W _ h => (h3 W h.1).mono fun e w' ⟨he, hw⟩ => ⟨none, 0, 0, he, hw ▸ Many.refl _ _, hw ▸ h, rfl⟩
  marked := fun W u h => by subst h; exact (h4 W).mono fun e w' ⟨he, hw⟩ => ⟨he, hw ▸ Below.refl _ _⟩
  markedB := fun W _ => (h4 W).mono fun e w' ⟨he, hw⟩ => ⟨he, hw ▸ Below.refl _ _⟩
end Go.Proofs.YtehnobcjoaclcaaGreat
