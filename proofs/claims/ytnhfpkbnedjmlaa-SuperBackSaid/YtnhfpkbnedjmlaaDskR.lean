/- Rows of many cells an element: one element is read, or written in part. -/
import Derived.Test.YtnhfpkbnedjmlaaDsk
import Derived.Test.YtnhfpkbnedjmlaaMid
namespace Go.Proofs.Ytnhfpkbnedjmlaa
open Go Go.RowKit DskP
set_option maxRecDepth 100000
set_option maxHeartbeats 1000000
set_option linter.unusedSimpArgs false

/-- A list with a part written anew. -/
def splice (xs : List Value) (k : Nat) (vs : List Value) : List Value := xs.take k ++ vs ++ xs.drop (k + vs.length)
theorem splice_len {xs vs : List Value} {k : Nat} (h : k + vs.length ≤ xs.length) : (splice xs k vs).length = xs.length := by
  unfold splice
  rw [List.length_append, List.length_append, List.length_take, List.length_drop]
  omega
theorem splice_get {xs vs : List Value} {k : Nat} (h : k + vs.length ≤ xs.length) (j : Nat) : (splice xs k vs)[j]? = if k ≤ j ∧ j < k + vs.length then vs[j - k]? else xs[j]? := by
  unfold splice
  by_cases h1 : k ≤ j ∧ j < k + vs.length
  · rw [if_pos h1, List.getElem?_append_left (by rw [List.length_append, List.length_take]; omega), List.getElem?_append_right (by rw [List.length_take]; omega), List.length_take, Nat.min_eq_left (by omega)]
  · rw [if_neg h1]
    by_cases h2 : j < k
    · rw [List.append_assoc, List.getElem?_append_left (by rw [List.length_take]; omega), List.getElem?_take_of_lt h2]
    · rw [List.getElem?_append_right (by rw [List.length_append, List.length_take]; omega), List.length_append, List.length_take, List.getElem?_drop]
      congr 1
      omega
theorem RowAt.setCells {w : World} {base : Nat} {e : TypeId} {size n g o cap : Nat} {xs : List Value} (h : RowAt w base e size (.slice (some ⟨g, o, none⟩) n cap) n xs) (k : Nat) (vs : List Value) (hk : k + vs.length ≤ n * size) :
    RowAt (w.setCells g (o + k) vs) base e size (.slice (some ⟨g, o, none⟩) n cap) n (splice xs k vs) := by
  have hx := h.1
  refine ⟨by rw [splice_len (by omega)]; exact hx, ?_⟩
  rcases h.2 with ⟨h1, _⟩ | ⟨g', o', cap', cur, hv, h1, h2, h3, h4, h5, h6⟩
  · cases h1
  · simp only [Value.slice.injEq, Option.some.injEq, Addr.mk.injEq, and_true, true_and] at hv
    obtain ⟨⟨rfl, rfl⟩, rfl⟩ := hv
    have hle := Nat.mul_le_mul_right size h3
    refine .inr ⟨g, o, cap, _, rfl, h1, Sits.setCells vs _ h2, h3, h4, by rw [putAll_size]; exact h5, ?_⟩
    apply List.ext_getElem?
    intro j
    rw [splice_get (by omega)]
    by_cases hj : j < n * size
    · rw [List.getElem?_take_of_lt hj, List.getElem?_drop, Array.getElem?_toList, putAll_get _ _ _ _ (by omega)]
      by_cases h7 : k ≤ j ∧ j < k + vs.length
      · rw [if_pos (by omega), if_pos h7]
        congr 1
        omega
      · rw [if_neg (by omega), if_neg h7, ← h6, List.getElem?_take_of_lt hj, List.getElem?_drop, Array.getElem?_toList]
    · rw [List.getElem?_eq_none (by rw [List.length_take]; omega), if_neg (by omega), List.getElem?_eq_none (by omega)]
theorem own_setCells {w : World} {base : Nat} {e : TypeId} {size n g cap : Nat} {xs : List Value} (h : w.ownsRow base e size (.slice (some ⟨g, 0, none⟩) n cap) n xs) (k : Nat) (vs : List Value) (hk : k + vs.length ≤ n * size) :
    (w.setCells g k vs).ownsRow base e size (.slice (some ⟨g, 0, none⟩) n cap) n (splice xs k vs) := by
  have hx := h.1
  have hr := (RowAt.ofOwn h).setCells k vs hk
  rw [Nat.zero_add] at hr
  refine ⟨hr.1, ?_⟩
  rcases h.2 with ⟨h1, _⟩ | ⟨g', cap', cur, hv, h1, h2, h3, h4, h5, h6⟩
  · cases h1
  · simp only [Value.slice.injEq, Option.some.injEq, Addr.mk.injEq, and_true, true_and] at hv
    obtain ⟨rfl, rfl⟩ := hv
    have hs : Sits (w.setCells g k vs) g e (putAll cur k vs) := Sits.setCells vs _ h2
    rcases hr.2 with ⟨h7, _⟩ | ⟨g2, o2, cap2, cur2, hv2, k1, k2, k3, k4, k5, k6⟩
    · cases h7
    · simp only [Value.slice.injEq, Option.some.injEq, Addr.mk.injEq, and_true, true_and] at hv2
      obtain ⟨⟨rfl, rfl⟩, rfl⟩ := hv2
      have he := (show (w.setCells g k vs).heap[g]? = _ from hs).symm.trans k2
      injection he with he
      injection he with he
      subst he
      exact .inr ⟨g, cap, _, rfl, h1, hs, h3, h4, by rw [putAll_size]; exact h5, by simpa using k6⟩
theorem own_take {w : World} {base : Nat} {e : TypeId} {size n g cap : Nat} {xs ys : List Value} (h : w.ownsRow base e size (.slice (some ⟨g, 0, none⟩) n cap) n (xs ++ ys)) (m : Nat) (hm : m ≤ n) (hx : xs.length = m * size) :
    w.ownsRow base e size (.slice (some ⟨g, 0, none⟩) m cap) m xs := by
  refine ⟨hx, ?_⟩
  rcases h.2 with ⟨h1, _⟩ | ⟨g', cap', cur, hv, h1, h2, h3, h4, h5, h6⟩
  · cases h1
  · simp only [Value.slice.injEq, Option.some.injEq, Addr.mk.injEq, and_true, true_and] at hv
    obtain ⟨rfl, rfl⟩ := hv
    refine .inr ⟨g, cap, cur, rfl, h1, h2, by omega, h4, h5, ?_⟩
    have hle := Nat.mul_le_mul_right size hm
    have := congrArg (List.take (m * size)) h6
    rw [List.take_take, Nat.min_eq_left hle, List.take_left' hx] at this
    exact this
theorem splice_front {xs ys vs : List Value} {k : Nat} (hx : xs.length = k) : splice (xs ++ ys) k vs = (xs ++ vs) ++ ys.drop vs.length := by
  unfold splice
  rw [List.take_left' hx, List.drop_append, List.drop_of_length_le (by omega), List.nil_append, show k + vs.length - xs.length = vs.length by omega]
theorem RowAt.range {w : World} {base : Nat} {e : TypeId} {size n g o cap : Nat} {xs : List Value} (h : RowAt w base e size (.slice (some ⟨g, o, none⟩) n cap) n xs) (k : Nat) (ys : List Value) (hy : ∀ j u, ys[j]? = some u → xs[k + j]? = some u) : w.rangeAt g (o + k) ys := by
  obtain ⟨A, cap', hv, _, _, _, h5⟩ := h.form
  simp only [Value.slice.injEq, true_and] at hv
  obtain ⟨rfl, rfl⟩ := hv
  obtain ⟨_, _, h7, _⟩ := h5 g o rfl
  intro j u hu
  rw [Nat.add_assoc]
  exact h7 _ _ (hy j u hu)
theorem RowAt.there {w : World} {base : Nat} {e : TypeId} {size n g o cap : Nat} {xs : List Value} (h : RowAt w base e size (.slice (some ⟨g, o, none⟩) n cap) n xs) (k m : Nat) (hk : k + m ≤ n * size) : w.there g (o + k) m := by
  obtain ⟨A, cap', hv, _, _, _, h5⟩ := h.form
  simp only [Value.slice.injEq, true_and] at hv
  obtain ⟨rfl, rfl⟩ := hv
  obtain ⟨_, _, h7, h8⟩ := h5 g o rfl
  intro j hj
  have hl := h.1
  refine ⟨?_, h8 _⟩
  rw [Nat.add_assoc, h7 (k + j) _ (List.getElem?_eq_getElem (by omega))]
  rfl
/-- Elements one behind the other, each of so many cells. -/
def rows (F : Nat → List Value) (n : Nat) : List Value := (List.range n).flatMap F
theorem rows_succ (F : Nat → List Value) (n : Nat) : rows F (n + 1) = rows F n ++ F n := by simp [rows, List.range_succ]
theorem rows_len {F : Nat → List Value} {k : Nat} : ∀ {n : Nat}, (∀ i, i < n → (F i).length = k) → (rows F n).length = n * k
  | 0, _ => by simp [rows]
  | n + 1, h => by rw [rows_succ, List.length_append, rows_len (fun i hi => h i (by omega)), h n (by omega), Nat.succ_mul]
theorem rows_at {F : Nat → List Value} {k : Nat} : ∀ {n : Nat}, (∀ i, i < n → (F i).length = k) → ∀ i r, i < n → r < k → (rows F n)[i * k + r]? = (F i)[r]?
  | 0, _, _, _, hi, _ => by omega
  | n + 1, h, i, r, hi, hr => by
    have hl := rows_len (F := F) (k := k) (n := n) fun i hi => h i (by omega)
    rw [rows_succ]
    by_cases hn : i = n
    · subst hn
      rw [List.getElem?_append_right (by omega), hl, show i * k + r - i * k = r by omega]
    · have h1 : (i + 1) * k ≤ n * k := Nat.mul_le_mul_right k (by omega)
      rw [Nat.succ_mul] at h1
      rw [List.getElem?_append_left (by omega)]
      exact rows_at (fun i hi => h i (by omega)) i r (by omega) hr
theorem rows_ext {F : Nat → List Value} {k n : Nat} {xs : List Value} (hF : ∀ i, i < n → (F i).length = k) (hl : xs.length = n * k) (h : ∀ i r, i < n → r < k → xs[i * k + r]? = (F i)[r]?) : xs = rows F n := by
  apply List.ext_getElem?
  intro j
  by_cases hj : j < n * k
  · have hk : 0 < k := by rcases Nat.eq_zero_or_pos k with h0 | h0; · rw [h0] at hj; simp at hj
                          · exact h0
    have h1 : j / k < n := (Nat.div_lt_iff_lt_mul hk).2 hj
    have h2 := Nat.mod_lt j hk
    have h3 : j / k * k + j % k = j := by rw [Nat.mul_comm]; exact Nat.div_add_mod j k
    have h4 := h (j / k) (j % k) h1 h2
    have h5 := rows_at hF (j / k) (j % k) h1 h2
    rw [h3] at h4 h5
    rw [h4, h5]
  · rw [List.getElem?_eq_none (by omega), List.getElem?_eq_none (by rw [rows_len hF]; omega)]
theorem rows_congr {F G : Nat → List Value} : ∀ {n : Nat}, (∀ i, i < n → F i = G i) → rows F n = rows G n
  | 0, _ => rfl
  | n + 1, h => by rw [rows_succ, rows_succ, rows_congr (fun i hi => h i (by omega)), h n (by omega)]
theorem rows_splice {F : Nat → List Value} {k n : Nat} (hF : ∀ i, i < n → (F i).length = k) {i a : Nat} {vs : List Value} (hi : i < n) (ha : a + vs.length ≤ k) : splice (rows F n) (i * k + a) vs = rows (setAt F i (splice (F i) a vs)) n := by
  have h1 : (i + 1) * k ≤ n * k := Nat.mul_le_mul_right k (by omega)
  rw [Nat.succ_mul] at h1
  have hl := rows_len hF
  refine rows_ext (k := k) (fun j hj => ?_) (by rw [splice_len (by omega), hl]) fun j r hj hr => ?_
  · unfold setAt
    split
    · rw [splice_len (by rw [hF i hi]; exact ha), hF i hi]
    · exact hF j hj
  · rw [splice_get (by omega)]
    by_cases hji : j = i
    · subst hji
      rw [setAt_same, splice_get (by rw [hF j hi]; exact ha)]
      by_cases h2 : a ≤ r ∧ r < a + vs.length
      · rw [if_pos (by omega), if_pos h2]
        congr 1
        omega
      · rw [if_neg (by omega), if_neg h2, rows_at hF j r hj hr]
    · rw [setAt_other _ _ hji, rows_at hF j r hj hr, if_neg]
      intro h2
      rcases Nat.lt_or_gt_of_ne hji with h3 | h3
      · have := Nat.mul_le_mul_right k (show j + 1 ≤ i by omega)
        rw [Nat.succ_mul] at this
        omega
      · have := Nat.mul_le_mul_right k (show i + 1 ≤ j by omega)
        rw [Nat.succ_mul] at this
        omega
theorem RowAt.row {w : World} {base : Nat} {e : TypeId} {k n g o cap : Nat} {F : Nat → List Value} (h : RowAt w base e k (.slice (some ⟨g, o, none⟩) n cap) n (rows F n)) (hF : ∀ i, i < n → (F i).length = k) {i : Nat} (hi : i < n) (a : Nat) (ys : List Value) (hy : ∀ j u, ys[j]? = some u → (F i)[a + j]? = some u) : w.rangeAt g (o + (i * k + a)) ys :=
  h.range (i * k + a) ys fun j u hu => by
    have h1 := hy j u hu
    have hr : a + j < k := by have := (List.getElem?_eq_some_iff.1 h1).1; rw [hF i hi] at this; exact this
    rw [Nat.add_assoc, rows_at hF i _ hi hr]
    exact h1
theorem RowAt.setRow_ {w : World} {base : Nat} {e : TypeId} {k n g o cap : Nat} {F : Nat → List Value} (h : RowAt w base e k (.slice (some ⟨g, o, none⟩) n cap) n (rows F n)) (hF : ∀ i, i < n → (F i).length = k) {i a : Nat} {vs : List Value} (hi : i < n) (ha : a + vs.length ≤ k) :
    RowAt (w.setCells g (o + (i * k + a)) vs) base e k (.slice (some ⟨g, o, none⟩) n cap) n (rows (setAt F i (splice (F i) a vs)) n) := by
  have h1 : (i + 1) * k ≤ n * k := Nat.mul_le_mul_right k (by omega)
  rw [Nat.succ_mul] at h1
  rw [← rows_splice hF hi ha]
  exact h.setCells _ vs (by omega)
theorem RowAt.roomed {w : World} {base : Nat} {e : TypeId} {k n g o cap : Nat} {xs : List Value} (h : RowAt w base e k (.slice (some ⟨g, o, none⟩) n cap) n xs) {i a m : Nat} (hi : i < n) (ha : a + m ≤ k) : w.there g (o + (i * k + a)) m := by
  have h1 : (i + 1) * k ≤ n * k := Nat.mul_le_mul_right k (by omega)
  rw [Nat.succ_mul] at h1
  exact h.there _ m (by omega)

/-! Sectors, and writes that wait -/
theorem encPl_len {x : Pl} (h : x.now.length = 64 ∧ x.last.length = 64) : (encPl x).length = 129 := by simp [encPl, bl_len, h.1, h.2]
theorem encWr_len {x : Wr} (h : x.data.length = 64) : (encWr x).length = 67 := by simp [encWr, bl_len, h]
theorem cellsPl_rows (f : Nat → Pl) (n : Nat) : cellsPl f n = rows (fun i => encPl (f i)) n := rfl
theorem setAt_map {α β : Type} (g : α → β) (f : Nat → α) (i : Nat) (a : α) : setAt (fun j => g (f j)) i (g a) = fun j => g (setAt f i a j) := by
  funext j
  unfold setAt
  split <;> rfl
theorem splice_now {x : Pl} (d : List UInt8) (h : x.now.length = 64) (hd : d.length = 64) : splice (encPl x) 0 (bl d) = encPl ⟨d, x.last, x.tm⟩ := by
  unfold splice encPl
  rw [List.take_zero, List.nil_append, bl_len, hd, Nat.zero_add, List.append_assoc, List.drop_left' (by rw [bl_len, h])]
  simp only [List.append_assoc]
theorem splice_last {x : Pl} (d : List UInt8) (h : x.now.length = 64 ∧ x.last.length = 64) (hd : d.length = 64) : splice (encPl x) 64 (bl d) = encPl ⟨x.now, d, x.tm⟩ := by
  have e1 : (encPl x).take 64 = bl x.now := by
    unfold encPl
    rw [List.append_assoc, List.take_left' (by rw [bl_len, h.1])]
  have e2 : (encPl x).drop (64 + 64) = [.int .i64 (x.tm : Int)] := by
    unfold encPl
    rw [List.drop_left' (by simp [bl_len, h.1, h.2])]
  unfold splice
  rw [bl_len, hd, e1, e2]
  rfl
theorem splice_tm {x : Pl} (t : Nat) (h : x.now.length = 64 ∧ x.last.length = 64) : splice (encPl x) 128 [.int .i64 (t : Int)] = encPl ⟨x.now, x.last, t⟩ := by
  unfold splice encPl
  rw [List.take_left' (by simp [bl_len, h.1, h.2]), List.drop_of_length_le (by simp [bl_len, h.1, h.2]), List.append_nil]
theorem encPl_at_now {x : Pl} (_h : x.now.length = 64) : ∀ j u, (bl x.now)[j]? = some u → (encPl x)[0 + j]? = some u := by
  intro j u hu
  have hj := (List.getElem?_eq_some_iff.1 hu).1
  rw [Nat.zero_add]
  unfold encPl
  rw [List.append_assoc, List.getElem?_append_left hj]
  exact hu
theorem encPl_at_last {x : Pl} (h : x.now.length = 64) : ∀ j u, (bl x.last)[j]? = some u → (encPl x)[64 + j]? = some u := by
  intro j u hu
  have hj := (List.getElem?_eq_some_iff.1 hu).1
  unfold encPl
  rw [List.append_assoc, List.getElem?_append_right (by rw [bl_len, h]; omega), bl_len, h, List.getElem?_append_left (by omega), show 64 + j - 64 = j by omega]
  exact hu
theorem encPl_at_tm {x : Pl} (h : x.now.length = 64 ∧ x.last.length = 64) : (encPl x)[128]? = some (.int .i64 (x.tm : Int)) := by
  unfold encPl
  rw [List.getElem?_append_right (by simp [bl_len, h.1, h.2]), List.length_append, bl_len, bl_len, h.1, h.2]
  rfl
theorem cellsPl_one (f : Nat → Pl) (n : Nat) : ∀ u ∈ cellsPl f n, u.oneCell' = true := by
  intro u hu
  obtain ⟨i, _, hi⟩ := List.mem_flatMap.1 hu
  unfold encPl at hi
  simp only [List.mem_append, List.mem_singleton] at hi
  rcases hi with (hi | hi) | rfl
  · exact bl_one _ u hi
  · exact bl_one _ u hi
  · rfl
theorem encWr_one (x : Wr) : ∀ u ∈ encWr x, u.oneCell' = true := by
  intro u hu
  unfold encWr at hu
  simp only [List.mem_append, List.mem_cons, List.not_mem_nil, or_false] at hu
  rcases hu with (rfl | rfl | rfl) | hu
  · rfl
  · rfl
  · rfl
  · exact bl_one _ u hu
theorem cellsWr_one (l : List Wr) : ∀ u ∈ cellsWr l, u.oneCell' = true := by
  intro u hu
  obtain ⟨x, _, hx⟩ := List.mem_flatMap.1 hu
  exact encWr_one x u hx
theorem cellsWr_len : ∀ {l : List Wr}, (∀ x ∈ l, x.data.length = 64) → (cellsWr l).length = l.length * 67
  | [], _ => rfl
  | x :: l, h => by
    have := cellsWr_len (l := l) fun y hy => h y (List.mem_cons_of_mem _ hy)
    unfold cellsWr at this ⊢
    rw [List.flatMap_cons, List.length_append, this, encWr_len (h x List.mem_cons_self), List.length_cons]
    omega
theorem cellsWr_at : ∀ {l : List Wr}, (∀ x ∈ l, x.data.length = 64) → ∀ (i r : Nat) (h : i < l.length), r < 67 → (cellsWr l)[i * 67 + r]? = (encWr l[i])[r]?
  | x :: l, hl, 0, r, _, hr => by
    unfold cellsWr
    rw [List.flatMap_cons, Nat.zero_mul, Nat.zero_add, List.getElem?_append_left (by rw [encWr_len (hl x List.mem_cons_self)]; exact hr)]
    rfl
  | x :: l, hl, i + 1, r, h, hr => by
    have := cellsWr_at (l := l) (fun y hy => hl y (List.mem_cons_of_mem _ hy)) i r (by simpa using h) hr
    unfold cellsWr at this ⊢
    rw [List.flatMap_cons, List.getElem?_append_right (by rw [encWr_len (hl x List.mem_cons_self)]; omega), encWr_len (hl x List.mem_cons_self), show (i + 1) * 67 + r - 67 = i * 67 + r by omega, this]
    rfl
end Go.Proofs.Ytnhfpkbnedjmlaa
