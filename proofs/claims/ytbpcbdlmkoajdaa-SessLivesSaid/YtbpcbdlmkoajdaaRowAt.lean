/- A row of the call's own that may begin inside its block (it was cut at its head): append onto it, cut it, read it. -/
import Derived.Test.YtbpcbdlmkoajdaaAppend
import Derived.Test.YtbpcbdlmkoajdaaRow
import Derived.Test.YtbpcbdlmkoajdaaTwo
namespace Go.Proofs.Ytbpcbdlmkoajdaa
open Go Go.RowKit
set_option maxRecDepth 100000

/-- v is a slice of n elements of the call's own, whose cells are xs; it may have room behind it, and cells before it. -/
def RowAt (w : World) (base : Nat) (e : TypeId) (size : Nat) (v : Value) (n : Nat) (xs : List Value) : Prop :=
  xs.length = n * size ∧
  ((v = .slice none 0 0 ∧ n = 0) ∨
   ∃ g o cap cur, v = .slice (some ⟨g, o, none⟩) n cap ∧ base ≤ g ∧ w.heap[g]? = some (.cells cur e (0, 0)) ∧ n ≤ cap ∧ cap ≤ maxLen ∧ o + cap * size ≤ cur.size ∧ (cur.toList.drop o).take (n * size) = xs)
section
variable {w w' : World} {base : Nat} {e : TypeId} {size : Nat} {v : Value} {n : Nat} {xs : List Value}
theorem RowAt.nil (w : World) (base : Nat) (e : TypeId) (size : Nat) : RowAt w base e size (.slice none 0 0) 0 [] := ⟨by simp, .inl ⟨rfl, rfl⟩⟩
theorem RowAt.lt (h : RowAt w base e size v n xs) : ∀ k, v.ownBlock = some k → base ≤ k ∧ k < w.heap.size := by
  intro k hk
  rcases h.2 with ⟨rfl, _⟩ | ⟨g, o, cap, cur, rfl, hb, hg, _⟩
  · simp [Value.ownBlock] at hk
  · simp [Value.ownBlock] at hk
    subst hk
    exact ⟨hb, (Array.getElem?_eq_some_iff.1 hg).1⟩
theorem RowAt.sits (h : RowAt w base e size v n xs) : ∀ k, v.ownBlock = some k → ∃ cur, Sits w k e cur := by
  intro k hk
  rcases h.2 with ⟨rfl, _⟩ | ⟨g, o, cap, cur, rfl, hb, hg, _⟩
  · simp [Value.ownBlock] at hk
  · simp [Value.ownBlock] at hk
    subst hk
    exact ⟨cur, hg⟩
/-- Its block stays: it stays. -/
theorem RowAt.keep (h : RowAt w base e size v n xs) (hk : ∀ k, v.ownBlock = some k → w'.heap[k]? = w.heap[k]?) : RowAt w' base e size v n xs := by
  refine ⟨h.1, ?_⟩
  rcases h.2 with hn | ⟨g, o, cap, cur, rfl, hb, hgg, rest⟩
  · exact .inl hn
  · exact .inr ⟨g, o, cap, cur, rfl, hb, (hk g rfl).trans hgg, rest⟩
theorem RowAt.below (h : RowAt w base e size v n xs) (hb : Below w.heap.size w w') : RowAt w' base e size v n xs := h.keep fun k hk => hb.block k (h.lt k hk).2
theorem RowAt.two {p g : Nat} (h : RowAt w base e size v n xs) (ho : Two p g w w') (hp : v.ownBlock ≠ some p) (hg : v.ownBlock ≠ some g) : RowAt w' base e size v n xs :=
  h.keep fun k hk => ho.block k (h.lt k hk).2 (by rintro rfl; exact hp hk) (by rintro rfl; exact hg hk)
theorem RowAt.len (h : RowAt w base e size v n xs) : n ≤ maxLen := by
  rcases h.2 with ⟨_, rfl⟩ | ⟨g, o, cap, cur, rfl, hb, hgg, h1, h2, _⟩
  · exact Nat.zero_le _
  · omega
theorem RowAt.form (h : RowAt w base e size v n xs) : ∃ A cap, v = .slice A n cap ∧ n ≤ cap ∧ (cap : Int) ≤ 9223372036854775807 ∧ (0 < n → ∃ g o, A = some ⟨g, o, none⟩) ∧
    ∀ g o, A = some ⟨g, o, none⟩ → base ≤ g ∧ g < w.heap.size ∧ (∀ j u, xs[j]? = some u → w.cell? ⟨g, o + j, none⟩ = some u) ∧ ∀ j, w.frozen? ⟨g, j, none⟩ = false := by
  have hmx : maxLen = 9223372036854775807 := by decide
  rcases h.2 with ⟨rfl, rfl⟩ | ⟨g, o, cap, cur, rfl, hb, hgg, h1, h2, h3, h4⟩
  · exact ⟨none, 0, rfl, by omega, by omega, by omega, fun g o he => by cases he⟩
  · refine ⟨some ⟨g, o, none⟩, cap, rfl, h1, by omega, fun _ => ⟨g, o, rfl⟩, fun g' o' he => ?_⟩
    simp only [Option.some.injEq, Addr.mk.injEq, and_true] at he
    obtain ⟨rfl, rfl⟩ := he
    have hs : Sits w g e cur := hgg
    refine ⟨hb, hs.lt, fun j u hu => ?_, fun j => hs.warm j⟩
    rw [hs.cell]
    have hj : j < n * size := by
      have := (List.getElem?_eq_some_iff.1 hu).1
      rw [h.1] at this
      exact this
    rw [← h4, List.getElem?_take_of_lt hj, List.getElem?_drop] at hu
    simpa using hu
theorem RowAt.tail (h : RowAt w base e size v n xs) (k : Nat) (hk : k ≤ n) (hn : 0 < n) :
    ∃ g o cap, v = .slice (some ⟨g, o, none⟩) n cap ∧ n ≤ cap ∧ (cap : Int) ≤ 9223372036854775807 ∧ RowAt w base e size (.slice (some ⟨g, o + k * size, none⟩) (n - k) (cap - k)) (n - k) (xs.drop (k * size)) := by
  have hmx : maxLen = 9223372036854775807 := by decide
  rcases h.2 with ⟨rfl, rfl⟩ | ⟨g, o, cap, cur, rfl, hb, hgg, h1, h2, h3, h4⟩
  · omega
  · refine ⟨g, o, cap, rfl, h1, by omega, by rw [List.length_drop, h.1, Nat.sub_mul], .inr ⟨g, o + k * size, cap - k, cur, rfl, hb, hgg, by omega, by omega, ?_, ?_⟩⟩
    · rw [Nat.sub_mul]
      have := Nat.mul_le_mul_right size (show k ≤ cap by omega)
      omega
    · rw [← h4, List.drop_take, List.drop_drop, Nat.sub_mul]
theorem RowAt.mono {base' : Nat} (h : RowAt w base e size v n xs) (hb : base' ≤ base) : RowAt w base' e size v n xs := by
  refine ⟨h.1, ?_⟩
  rcases h.2 with hn | ⟨g, o, cap, cur, rfl, h0, rest⟩
  · exact .inl hn
  · exact .inr ⟨g, o, cap, cur, rfl, by omega, rest⟩
theorem RowAt.ofOwn (h : w.ownsRow base e size v n xs) : RowAt w base e size v n xs := by
  refine ⟨h.1, ?_⟩
  rcases h.2 with hn | ⟨g, cap, cur, rfl, hb, hg, h1, h2, h3, h4⟩
  · exact .inl hn
  · exact .inr ⟨g, 0, cap, cur, rfl, hb, hg, h1, h2, by omega, by simpa using h4⟩
end
/-- append's run onto such a row. -/
theorem appendAt_src {P : Program} {w : World} {base : Nat} {t tx e : TypeId} {z : Value} {size bytes : Nat} (he : Elem P t e z size bytes) {v : Value} {n : Nat} {xs : List Value} (hown : RowAt w base e size v n xs)
    {x : Value} {m : Nat} {news : List Value} (hs : Src P size tx x m news w) (ty : TypeId) (hm : n + m ≤ maxLen) (hb : (n + m) * bytes ≤ 140737488355328) (hbase : base ≤ w.heap.size) :
    ∃ v' w', (Builtin.append_ #[t, tx] ty #[v, x]).run P w = .ok v' w' ∧ RowAt w' base e size v' (n + m) (xs ++ news) ∧ w.grownBy w' v.ownBlock ∧ (v'.ownBlock = v.ownBlock ∨ v'.ownBlock = some w.heap.size) := by
  rcases hown.2 with ⟨rfl, rfl⟩ | ⟨g, o, cap, cur, rfl, hbg, hg, hnc, hcm, hcs, htake⟩
  · obtain rfl : xs = [] := List.eq_nil_of_length_eq_zero (by simpa using hown.1)
    obtain ⟨v', w', h1, h2, h3, h4⟩ := append_src he (World.ownsRow_nil w base e size) hs ty hm hb hbase
    exact ⟨v', w', h1, RowAt.ofOwn h2, h3, h4⟩
  · obtain ⟨i0, hi, hz0, rfl, rfl⟩ := info_parts he.info
    have hmx : maxLen = 9223372036854775807 := by decide
    have ht := he.slice
    have hpos := he.pos
    have hlen : (xs ++ news).length = (n + m) * i0.size := by rw [List.length_append, hown.1, hs.newsLen, Nat.add_mul]
    have hadd : ∀ j, (⟨g, o, none⟩ : Addr).add j = ⟨g, o + j, none⟩ := fun j => by unfold Addr.add; split <;> simp_all
    by_cases hroom : n + m ≤ cap
    · have hle : (n + m) * i0.size ≤ cap * i0.size := Nat.mul_le_mul_right _ hroom
      have hst := run_storeCells_at P g (o + n * i0.size) e news 0 cur w hg (by rw [hs.newsLen, Nat.add_zero, Nat.add_assoc, ← Nat.add_mul]; omega) hs.one
      have hl := hs.len
      have hc := hs.cells
      have hr : (Builtin.append_ #[t, tx] ty #[.slice (some ⟨g, o, none⟩) n cap, x]).run P w = .ok (.slice (some ⟨g, o, none⟩) (n + m) cap) (w.setRow g (cur.toList.take (o + n * i0.size + 0) ++ news ++ cur.toList.drop (o + n * i0.size + 0 + news.length)).toArray) := by
        rcases hs.kind with ⟨e', hk⟩ | hk <;> simp [Builtin.append_, run_underlying ht, run_underlying hk, sizeOf, typeInfo, hi, hl, hroom, hc, hadd] <;> rw [hst] <;> simp
      rw [Nat.add_mul] at hle
      have hxl := hown.1
      have hnl := hs.newsLen
      refine ⟨_, _, hr, ⟨hlen, .inr ⟨g, o, cap, _, rfl, hbg, setRow_heap w g cur _ _ _ hg, hroom, hcm, ?_, ?_⟩⟩, ⟨rfl, rfl, rfl, by simp [World.setRow], fun k _ hk => setRow_other w g k _ (fun e => hk (by simp [e, Value.ownBlock]))⟩, .inl rfl⟩
      · simp only [List.size_toArray, List.length_append, List.length_take, List.length_drop, Array.length_toList, hs.newsLen, Nat.add_zero]
        omega
      · have hcur : cur.toList.length = cur.size := Array.length_toList
        rw [Nat.add_zero, List.append_assoc, List.drop_append, List.drop_take, show o - (cur.toList.take (o + n * i0.size)).length = 0 by rw [List.length_take]; omega, List.drop_zero, show o + n * i0.size - o = n * i0.size by omega, htake, ← List.append_assoc, Nat.add_mul,
          List.take_append_of_le_length (Nat.le_of_eq (by rw [List.length_append, hxl, hnl])), List.take_of_length_le (Nat.le_of_eq (by rw [List.length_append, hxl, hnl]))]
    · obtain ⟨A, cap', hv, _, _, _, hcells⟩ := hown.form
      simp only [Value.slice.injEq, true_and] at hv
      obtain ⟨rfl, rfl⟩ := hv
      obtain ⟨_, _, holds, _⟩ := hcells g o rfl
      have hf := run_firstCells_some (P := P) w.drew i0.size n ⟨g, o, none⟩ n cap xs hown.1 (fun j u hu => by rw [hadd]; exact holds j u hu)
      have hge := grownCap_ge w (n + m) cap e
      have hcm2 : grownCap w (n + m) cap e ≤ maxLen := grownCap_le_maxLen w (n + m) cap e hm
      have hr := run_append_grow_src (P := P) w t tx ty e i0 z ht hi hz0 (some ⟨g, o, none⟩) n cap xs hf x m news hs (by omega) (by omega) (growslice_fits (by omega) hb)
      refine ⟨_, _, hr, ⟨hlen, .inr ⟨w.heap.size, 0, _, _, rfl, hbase, heap_alloc_new w.drew _, hge, hcm2, ?_, ?_⟩⟩, ⟨rfl, rfl, rfl, by simp, fun k hk _ => Below.heap_alloc w.drew _ k hk⟩, .inr rfl⟩
      · rw [Array.size_append, List.size_toArray, hlen, size_zeroCells, he.zero, ← Nat.add_mul, Nat.zero_add]
        exact Nat.le_of_eq (by congr 1; omega)
      · rw [List.drop_zero, Array.toList_append, ← hlen]
        exact List.take_left
/-- append onto a full slice: a block of its own. -/
theorem appendFull_src {P : Program} {w : World} {base : Nat} {t tx e : TypeId} {z : Value} {size bytes : Nat} (he : Elem P t e z size bytes) {g o n : Nat} {xs : List Value} (hxl : xs.length = n * size) (hcells : ∀ j u, xs[j]? = some u → w.cell? ⟨g, o + j, none⟩ = some u)
    {x : Value} {m : Nat} {news : List Value} (hs : Src P size tx x m news w) (h0 : 0 < m) (ty : TypeId) (hm : n + m ≤ maxLen) (hb : (n + m) * bytes ≤ 140737488355328) (hbase : base ≤ w.heap.size) :
    ∃ v' w', (Builtin.append_ #[t, tx] ty #[.slice (some ⟨g, o, none⟩) n n, x]).run P w = .ok v' w' ∧ RowAt w' base e size v' (n + m) (xs ++ news) ∧ Below w.heap.size w w' ∧ v'.ownBlock = some w.heap.size := by
  obtain ⟨i0, hi, hz0, rfl, rfl⟩ := info_parts he.info
  have hmx : maxLen = 9223372036854775807 := by decide
  have ht := he.slice
  have hpos := he.pos
  have hlen : (xs ++ news).length = (n + m) * i0.size := by rw [List.length_append, hxl, hs.newsLen, Nat.add_mul]
  have hadd : ∀ j, (⟨g, o, none⟩ : Addr).add j = ⟨g, o + j, none⟩ := fun j => by unfold Addr.add; split <;> simp_all
  have hf := run_firstCells_some (P := P) w.drew i0.size n ⟨g, o, none⟩ n n xs hxl (fun j u hu => by rw [hadd]; exact hcells j u hu)
  have hge := grownCap_ge w (n + m) n e
  have hcm2 : grownCap w (n + m) n e ≤ maxLen := grownCap_le_maxLen w (n + m) n e hm
  have hr := run_append_grow_src (P := P) w t tx ty e i0 z ht hi hz0 (some ⟨g, o, none⟩) n n xs hf x m news hs (by omega) (by omega) (growslice_fits (by omega) hb)
  refine ⟨_, _, hr, ⟨hlen, .inr ⟨w.heap.size, 0, _, _, rfl, hbase, heap_alloc_new w.drew _, hge, hcm2, ?_, ?_⟩⟩, ((Below.refl w.heap.size w).drew).alloc (by simp) _, rfl⟩
  · rw [Array.size_append, List.size_toArray, hlen, size_zeroCells, he.zero, ← Nat.add_mul, Nat.zero_add]
    exact Nat.le_of_eq (by congr 1; omega)
  · rw [List.drop_zero, Array.toList_append, ← hlen]
    exact List.take_left
/-- Such a row as append's operand. -/
theorem src_rowAt {P : Program} {w : World} {base size : Nat} {tx e : TypeId} (hk : P.underlying tx = some (.slice e)) {v : Value} {m : Nat} {news : List Value} (hown : RowAt w base e size v m news) (h1 : ∀ u ∈ news, u.oneCell' = true) :
    Src P size tx v m news w := by
  obtain ⟨A, cap, rfl, h2, h3, h4, h5⟩ := hown.form
  refine src_slice hk hown.1 (fun h0 => ?_) h1
  obtain ⟨g, o, rfl⟩ := h4 h0
  exact ⟨g, o, rfl, (h5 g o rfl).2.2.1⟩
/-- Such a row of one-cell elements as a slice. -/
theorem RowAt.slice {α : Type} {f : α → Value} {w : World} {base : Nat} {e : TypeId} {v : Value} {n : Nat} {l : List α} (h : RowAt w base e 1 v n (l.map f)) : SliceAt 1 (fun x => [f x]) w v l := by
  obtain ⟨A, cap, rfl, h2, h3, h4, h5⟩ := h.form
  have hn : l.length = n := by have := h.1; simpa using this
  subst hn
  refine ⟨A, cap, rfl, h2, h3, fun i hi => ?_⟩
  obtain ⟨g, o, rfl⟩ := h4 (by omega)
  obtain ⟨_, h6, h7, _⟩ := h5 g o rfl
  refine ⟨g, o, rfl, h6, fun j u hu => ?_⟩
  rcases j with _ | j
  · simp only [List.getElem?_cons_zero, Option.some.injEq] at hu
    subst hu
    rw [Nat.mul_one, Nat.add_zero]
    exact h7 i _ (by simp [hi])
  · simp at hu
end Go.Proofs.Ytbpcbdlmkoajdaa
