/- Package span: the valid ones of a list, sorted (slices.SortFunc), and what touches joined: Norm. -/
import Derived.Test.YtalmcflcpljnmaaSpanC
import Derived.Test.YtalmcflcpljnmaaSort
import Derived.Laws.MakeOwn
namespace Go.Proofs.Ytalmcflcpljnmaa
open Go Go.RowKit SpanP Go.Sort
set_option maxRecDepth 100000
set_option maxHeartbeats 1000000
set_option linter.unusedSimpArgs false

/-- Block g has room for cap spans; the first ones are l. -/
def Blk (w : World) (g cap : Nat) (l : List S) : Prop := ∃ cur : Array Value, Sits w g 23 cur ∧ cur.size = cap * 2 ∧ ∀ i (h : i < l.length), cur[i * 2]? = some (.int .i64 l[i].1) ∧ cur[i * 2 + 1]? = some (.int .i64 l[i].2)
theorem Blk.lt {w : World} {g cap : Nat} {l : List S} (h : Blk w g cap l) : g < w.heap.size := by
  obtain ⟨cur, hc, _⟩ := h
  exact hc.lt
theorem Blk.below {w w' : World} {g cap : Nat} {l : List S} (h : Blk w g cap l) (hb : Below w.heap.size w w') : Blk w' g cap l := by
  obtain ⟨cur, hc, h1, h2⟩ := h
  exact ⟨cur, hc.below' hb, h1, h2⟩
theorem Blk.spans {w : World} {g cap : Nat} {l : List S} (h : Blk w g cap l) (h1 : l.length ≤ cap) (h2 : (cap : Int) ≤ 9223372036854775807) : Spans w (.slice (some ⟨g, 0, none⟩) l.length cap) l := by
  obtain ⟨cur, hc, hz, hat⟩ := h
  refine Spans.of_read h1 h2 fun i hi => ⟨g, 0, rfl, hc.lt, ?_, ?_⟩
  · rw [Nat.zero_add, hc.cell]; exact (hat i hi).1
  · rw [Nat.zero_add, hc.cell]; exact (hat i hi).2
theorem Blk.row {w : World} {g cap base : Nat} {l : List S} (h : Blk w g cap l) (hg : base ≤ g) (h1 : l.length ≤ cap) (h2 : cap ≤ maxLen) : SRow w base (.slice (some ⟨g, 0, none⟩) l.length cap) l := by
  obtain ⟨cur, hc, hz, hat⟩ := h
  refine ⟨cellsS_length l, .inr ⟨g, 0, cap, cur, rfl, hg, hc, h1, h2, by omega, ?_⟩⟩
  rw [List.drop_zero]
  refine List.ext_getElem? fun k => ?_
  by_cases hk : k < l.length * 2
  · have hi : k / 2 < l.length := by omega
    have h3 := cellsS_at l (k / 2) (k % 2) hi (by omega)
    rw [show k / 2 * 2 + k % 2 = k by omega] at h3
    rw [List.getElem?_take_of_lt hk, Array.getElem?_toList, h3]
    have h4 := hat (k / 2) hi
    rcases Nat.mod_two_eq_zero_or_one k with e | e
    · rw [show k / 2 * 2 = k by omega] at h4
      rw [e, h4.1]
      rfl
    · rw [show k / 2 * 2 + 1 = k by omega] at h4
      rw [e, h4.2]
      rfl
  · rw [List.getElem?_eq_none (by rw [List.length_take]; omega), List.getElem?_eq_none (by rw [cellsS_length]; omega)]
theorem write_two (c : List Value) (a b : Value) (n : Nat) (h : n + 2 ≤ c.length) : (c.take (n + 0) ++ [a, b] ++ c.drop (n + 0 + 2)).length = c.length ∧ (∀ k, k ≠ n → k ≠ n + 1 → (c.take (n + 0) ++ [a, b] ++ c.drop (n + 0 + 2))[k]? = c[k]?) ∧
    (c.take (n + 0) ++ [a, b] ++ c.drop (n + 0 + 2))[n]? = some a ∧ (c.take (n + 0) ++ [a, b] ++ c.drop (n + 0 + 2))[n + 1]? = some b := by
  have hl : (c.take (n + 0)).length = n := by rw [List.length_take]; omega
  refine ⟨by simp only [List.length_append, hl, List.length_drop, List.length_cons, List.length_nil]; omega, fun k h1 h2 => ?_, ?_, ?_⟩
  · rw [List.append_assoc]
    by_cases hk : k < n
    · rw [List.getElem?_append_left (by omega), List.getElem?_take_of_lt (by omega)]
    · rw [List.getElem?_append_right (by omega), List.getElem?_append_right (by rw [hl]; simp only [List.length_cons, List.length_nil]; omega), List.getElem?_drop, hl]
      congr 1
      simp only [List.length_cons, List.length_nil]
      omega
  · rw [List.append_assoc, List.getElem?_append_right (by omega), hl, Nat.sub_self]
    rfl
  · rw [List.append_assoc, List.getElem?_append_right (by omega), hl, Nat.add_sub_cancel_left]
    rfl
/-- append into room: the block is written at one place. -/
theorem push_room {W : World} {g cap n : Nat} {cur : Array Value} (h : Sits W g 23 cur) (hz : cur.size = cap * 2) (hn : n + 1 ≤ cap) (s : S) (ty : TypeId) :
    ∃ cur' W', (Builtin.append_ #[33, 33] ty #[.slice (some ⟨g, 0, none⟩) n cap, .slice (some ⟨W.heap.size, 0, none⟩) 1 1]).run Try.prog (W.alloc (.cells #[.int .i64 s.1, .int .i64 s.2] 23)) = .ok (.slice (some ⟨g, 0, none⟩) (n + 1) cap) W' ∧
      Sits W' g 23 cur' ∧ cur'.size = cap * 2 ∧ (∀ k, k ≠ n * 2 → k ≠ n * 2 + 1 → cur'[k]? = cur[k]?) ∧ cur'[n * 2]? = some (.int .i64 s.1) ∧ cur'[n * 2 + 1]? = some (.int .i64 s.2) ∧ Only g W W' := by
  have hs : Src Try.prog 2 33 (.slice (some ⟨W.heap.size, 0, none⟩) 1 1) 1 (encS s) (W.alloc (.cells #[.int .i64 s.1, .int .i64 s.2] 23)) := src_slice Try.underlying33 rfl (fun _ => ⟨W.heap.size, 0, rfl, fun j u hu => by
    rw [Nat.zero_add, (Sits.fresh W 23 #[.int .i64 s.1, .int .i64 s.2]).cell j]
    simpa [encS] using hu⟩) (by simp [encS, Value.oneCell'])
  have h0 := h.alloc (.cells #[.int .i64 s.1, .int .i64 s.2] 23)
  have hO : Only g W (W.alloc (.cells #[.int .i64 s.1, .int .i64 s.2] 23)) := (Only.refl g W).alloc _
  generalize W.alloc (.cells #[.int .i64 s.1, .int .i64 s.2] 23) = W1 at hs h0 hO ⊢
  generalize (Value.slice (some ⟨W.heap.size, 0, none⟩) 1 1) = x at hs ⊢
  obtain ⟨i0, hi, hz0, hz1, hz2⟩ := info_parts (elemS).info
  have hg : W1.heap[g]? = some (.cells cur 23 (0, 0)) := h0
  have hst := run_storeCells_at Try.prog g (n * 2) 23 (encS s) 0 cur W1 hg (by simp only [encS, List.length_cons, List.length_nil]; omega) hs.one
  have hl := hs.len
  have hc := hs.cells
  have ht := Try.underlying33
  have hr : (Builtin.append_ #[33, 33] ty #[.slice (some ⟨g, 0, none⟩) n cap, x]).run Try.prog W1 = .ok (.slice (some ⟨g, 0, none⟩) (n + 1) cap) (W1.setRow g (cur.toList.take (n * 2 + 0) ++ encS s ++ cur.toList.drop (n * 2 + 0 + (encS s).length)).toArray) := by
    simp [Builtin.append_, run_underlying ht, sizeOf, typeInfo, hi, hz1, hl, hn, hc, Addr.add_lit] <;> rw [hst] <;> simp
  obtain ⟨e1, e2, e3, e4⟩ := write_two cur.toList (.int .i64 s.1) (.int .i64 s.2) (n * 2) (by rw [Array.length_toList]; omega)
  have hcl : cur.toList.length = cur.size := Array.length_toList
  refine ⟨_, _, hr, setRow_heap W1 g cur _ _ _ hg, ?_, ?_, ?_, ?_, hO.trans ⟨rfl, rfl, rfl, by simp [World.setRow], fun k _ hk => setRow_other W1 g k _ hk⟩⟩
  · rw [List.size_toArray]; exact e1.trans (hcl.trans hz)
  · intro k h1 h2
    rw [List.getElem?_toArray]
    exact (e2 k h1 h2).trans Array.getElem?_toList
  · rw [List.getElem?_toArray]; exact e3
  · rw [List.getElem?_toArray]; exact e4

def cfS (x y : S) : Int := cmpInt x.1 y.1
theorem cfS_true (x y : S) : ltOf cfS x y = true ↔ x.1 < y.1 := by
  unfold ltOf cfS cmpInt
  rw [decide_eq_true_eq]
  repeat' split <;> omega
theorem cfS_false (x y : S) : ltOf cfS x y = false ↔ ¬ x.1 < y.1 := by rw [← cfS_true x y]; simp
theorem swo_cfS : SWO (ltOf cfS) where
  irrefl x := by rw [cfS_false]; omega
  trans x y z h1 h2 := by rw [cfS_true] at *; omega
  ntrans x y z h1 h2 := by rw [cfS_false] at *; omega
theorem cmpLaysS (blk off size : Nat) (w : World) : CmpLays Try.prog 56 #[] encS 2 cfS blk off size w :=
  fun _ _ _ _ x y => byFrom_any x y _
theorem flatS_get (l : List S) : ∀ u ∈ l.flatMap encS, u.oneCell' = true := cellsS_one l
theorem blk_holds {w : World} {g cap : Nat} {l : List S} (h : Blk w g cap l) : HoldsK encS 2 w g 0 l.toArray := by
  intro j hj
  rw [size_flatK, List.size_toArray] at hj
  obtain ⟨cur, hc, hz, h2⟩ := h
  have hi : j / 2 < l.length := by omega
  refine ⟨?_, by rw [Nat.zero_add]; exact hc.warm j⟩
  rw [get_flatK _ _ _ _ (by rw [List.size_toArray]; exact hj), Nat.zero_add, hc.cell, getElem!_pos l.toArray (j / 2) (by simpa using hi)]
  have h4 := h2 (j / 2) hi
  rw [List.getElem_toArray]
  rcases Nat.mod_two_eq_zero_or_one j with e | e
  · rw [show j / 2 * 2 = j by omega] at h4
    rw [e, h4.1]
    rfl
  · rw [show j / 2 * 2 + 1 = j by omega] at h4
    rw [e, h4.2]
    rfl
theorem sortedS_only {w : World} {g n : Nat} {d : Array S} {os : Array Obj} : Only g w (sortWorldK encS 2 w g 0 n d os) := by
  refine ⟨rfl, rfl, rfl, ?_, fun k hk hg => ?_⟩
  · show w.heap.size ≤ (Sort.grow (putRow id (Sort.ahead w n) g 0 (flatK encS 2 d)) os).heap.size
    simp only [Sort.grow, Array.size_append, size_putRow]
    show w.heap.size ≤ w.heap.size + os.size
    omega
  · show ((putRow id (Sort.ahead w n) g 0 (flatK encS 2 d)).heap ++ os)[k]? = w.heap[k]?
    rw [Array.getElem?_append_left (by rw [size_putRow]; exact hk)]
    unfold putRow mapBlock Sort.ahead
    simp only
    rw [Array.getElem?_modify]
    rw [if_neg (Ne.symm hg)]
theorem sortedS_sits {w : World} {g n : Nat} {d : Array S} {os : Array Obj} {cur : Array Value} (h : Sits w g 23 cur) : ∃ cur', Sits (sortWorldK encS 2 w g 0 n d os) g 23 cur' ∧ cur'.size = cur.size := by
  refine ⟨putCells id 0 (flatK encS 2 d) cur, ?_, by simp [putCells]⟩
  show ((putRow id (Sort.ahead w n) g 0 (flatK encS 2 d)).heap ++ os)[g]? = _
  rw [Array.getElem?_append_left (by rw [size_putRow]; exact h.lt)]
  unfold putRow mapBlock Sort.ahead
  simp only
  rw [Array.getElem?_modify, if_pos rfl, show w.heap[g]? = some (.cells cur 23 (0, 0)) from h]
  rfl
/-- slices.SortFunc by byFrom: the spans rise by where they begin. -/
theorem sortS_any (g cap : Nat) (l : List S) (w : World) (h : Blk w g cap l) (hs : l.length ≤ 1000000) :
    Calls Try.prog 55 #[.slice (some ⟨g, 0, none⟩) l.length cap, .func (.func 56) #[] #[]] w fun e w' => e = .returned (.tuple #[]) ∧
      ∃ d : List S, d.Perm l ∧ d.Pairwise (fun a b => a.1 ≤ b.1) ∧ Blk w' g cap d ∧ Only g w w' := by
  have eg : ∀ args w, (callFunc 56 args).run Try.prog w = .ok (.enter 56 args) w := enters_of Try.func56 (by kernel_rfl) rfl
  have hcon := AnyQ.slices_SortFunc Try.sort_span 2 Try.isAgg23 Try.sizeOf23 encS (fun _ => rfl) (fun x v hv => cellsS_one [x] v (by simpa [cellsS] using hv)) cfS swo_cfS 56 #[] g 0 cap l.toArray w eg (cmpLaysS g 0 l.toArray.size w) (blk_holds h) h.lt (by rw [List.size_toArray]; omega)
  change Calls Try.prog 55 _ _ _ at hcon
  rw [List.size_toArray] at hcon
  refine hcon.mono ?_
  rintro e w' ⟨rfl, d', n, os, hperm, hsort, rfl⟩
  have hdl : d'.toList.Perm l := by
    have := hperm.2.2
    rwa [show d'.extract 0 l.length = d' by rw [show l.length = d'.size by rw [hperm.1, List.size_toArray]]; exact Array.extract_size, show l.toArray.extract 0 l.length = l.toArray by
      rw [show l.length = l.toArray.size by simp]; exact Array.extract_size] at this
  have hsz : d'.size = l.length := by rw [hperm.1, List.size_toArray]
  refine ⟨rfl, d'.toList, hdl, List.pairwise_iff_getElem.2 fun i j hi hj hij => ?_, ?_, sortedS_only⟩
  · rw [Array.length_toList] at hi hj
    have := hsort i j (by omega) hij (by omega)
    rw [cfS_false, getElem!_pos d' i hi, getElem!_pos d' j hj] at this
    simp only [Array.getElem_toList]
    omega
  · have hH := holdsK_sortWorldK_c (enc := encS) (k := 2) (w := w) (blk := g) (off := 0) l.toArray d' n os (blk_holds h) h.lt (by rw [hsz, List.size_toArray])
    obtain ⟨cur, hc, hz, _⟩ := h
    obtain ⟨cur', hc', hz'⟩ := sortedS_sits (n := n) (d := d') (os := os) hc
    refine ⟨cur', hc', by omega, fun i hi => ?_⟩
    rw [Array.length_toList] at hi
    have k0 := (HoldsK.cell hH (i := i) (c := 0) (by omega) (by omega)).1
    have k1 := (HoldsK.cell hH (i := i) (c := 1) (by omega) (by omega)).1
    rw [Nat.zero_add, hc'.cell, getElem!_pos d' i hi] at k0 k1
    exact ⟨k0, k1⟩
end Go.Proofs.Ytalmcflcpljnmaa
