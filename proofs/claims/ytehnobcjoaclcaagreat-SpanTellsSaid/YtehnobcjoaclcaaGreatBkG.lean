/- commonsbook's book: a kept list grows, in its own room or into memory of its own. -/
import Derived.Test.YtehnobcjoaclcaaGreatBkK
namespace Go.Proofs.YtehnobcjoaclcaaGreat
open Go Go.RowKit
set_option maxRecDepth 100000
set_option maxHeartbeats 1000000
set_option linter.unusedSimpArgs false

/-- append's run onto such a row: the row itself stays what it was, too. -/
theorem appendAt_room {P : Program} {w : World} {base : Nat} {t tx e : TypeId} {z : Value} {size bytes : Nat} (he : Elem P t e z size bytes) {v : Value} {n : Nat} {xs : List Value} (hown : RowAt w base e size v n xs)
    {x : Value} {m : Nat} {news : List Value} (hs : Src P size tx x m news w) (ty : TypeId) (hm : n + m ≤ maxLen) (hb : (n + m) * bytes ≤ 140737488355328) (hbase : base ≤ w.heap.size) :
    ∃ v' w', (Builtin.append_ #[t, tx] ty #[v, x]).run P w = .ok v' w' ∧ RowAt w' base e size v' (n + m) (xs ++ news) ∧ w.grownBy w' v.ownBlock ∧ ((∃ A cap, v = .slice A n cap ∧ v' = .slice A (n + m) cap ∧ n + m ≤ cap) ∨ (Below w.heap.size w w' ∧ ∀ q, v'.ownBlock = some q → q = w.heap.size)) ∧ RowAt w' base e size v n xs := by
  rcases hown.2 with ⟨rfl, rfl⟩ | ⟨g, o, cap, cur, rfl, hbg, hg, hnc, hcm, hcs, htake⟩
  · obtain rfl : xs = [] := List.eq_nil_of_length_eq_zero (by simpa using hown.1)
    obtain ⟨v', w', h1, h2, h3, h4⟩ := append_src he (World.ownsRow_nil w base e size) hs ty hm hb hbase
    exact ⟨v', w', h1, RowAt.ofOwn h2, h3, .inr ⟨⟨h3.os, h3.tape, h3.output, h3.size, fun k hk => h3.block k hk (by simp [Value.ownBlock])⟩, fun q hq => by
      rcases h4 with h4 | h4
      · rw [h4] at hq; simp [Value.ownBlock] at hq
      · rw [h4] at hq; simpa using hq.symm⟩, RowAt.nil _ _ _ _⟩
  · obtain ⟨i0, hi, hz0, rfl, rfl⟩ := info_parts he.info
    have hmx : maxLen = 9223372036854775807 := by decide
    have ht := he.slice
    have hpos := he.pos
    have hlen : (xs ++ news).length = (n + m) * i0.size := by rw [List.length_append, hown.1, hs.newsLen, Nat.add_mul]
    have hadd : ∀ j, (⟨g, o, none⟩ : Addr).add j = ⟨g, o + j, none⟩ := fun j => by unfold Addr.add; split <;> simp_all
    by_cases hroom : n + m ≤ cap
    · have hle : (n + m) * i0.size ≤ cap * i0.size := Nat.mul_le_mul_right _ hroom
      have hst := run_storeCells_at P g (o + n * i0.size) e news 0 cur w hg (by rw [hs.newsLen, Nat.add_zero, Nat.add_assoc, ← Nat.add_mul]; omega) hs.one
      have hl := hs.len
      have hc := hs.cells
      have hr : (Builtin.append_ #[t, tx] ty #[.slice (some ⟨g, o, none⟩) n cap, x]).run P w = .ok (.slice (some ⟨g, o, none⟩) (n + m) cap) (w.setRow g (cur.toList.take (o + n * i0.size + 0) ++ news ++ cur.toList.drop (o + n * i0.size + 0 + news.length)).toArray) := by
        rcases hs.kind with ⟨e', hk⟩ | hk <;> simp [Builtin.append_, run_underlying ht, run_underlying hk, sizeOf, typeInfo, hi, hl, hroom, hc, hadd] <;> rw [hst] <;> simp
      rw [Nat.add_mul] at hle
      have hxl := hown.1
      have hnl := hs.newsLen
      refine ⟨_, _, hr, ⟨hlen, .inr ⟨g, o, cap, _, rfl, hbg, setRow_heap w g cur _ _ _ hg, hroom, hcm, ?_, ?_⟩⟩, ⟨rfl, rfl, rfl, by simp [World.setRow], fun k _ hk => setRow_other w g k _ (fun e => hk (by simp [e, Value.ownBlock]))⟩, .inl ⟨_, _, rfl, rfl, hroom⟩, hxl, .inr ⟨g, o, cap, _, rfl, hbg, setRow_heap w g cur _ _ _ hg, hnc, hcm, ?_, ?_⟩⟩
      · simp only [List.size_toArray, List.length_append, List.length_take, List.length_drop, Array.length_toList, hs.newsLen, Nat.add_zero]
        omega
      · have hcur : cur.toList.length = cur.size := Array.length_toList
        rw [Nat.add_zero, List.append_assoc, List.drop_append, List.drop_take, show o - (cur.toList.take (o + n * i0.size)).length = 0 by rw [List.length_take]; omega, List.drop_zero, show o + n * i0.size - o = n * i0.size by omega, htake, ← List.append_assoc, Nat.add_mul,
          List.take_append_of_le_length (Nat.le_of_eq (by rw [List.length_append, hxl, hnl])), List.take_of_length_le (Nat.le_of_eq (by rw [List.length_append, hxl, hnl]))]
      · simp only [List.size_toArray, List.length_append, List.length_take, List.length_drop, Array.length_toList, hs.newsLen, Nat.add_zero]
        omega
      · have hcur : cur.toList.length = cur.size := Array.length_toList
        have h9 : xs.length ≤ n * i0.size := Nat.le_of_eq hxl
        rw [Nat.add_zero, List.append_assoc, List.drop_append, List.drop_take, show o - (cur.toList.take (o + n * i0.size)).length = 0 by rw [List.length_take]; omega, List.drop_zero, show o + n * i0.size - o = n * i0.size by omega, htake,
          List.take_append_of_le_length (Nat.le_of_eq hxl.symm), List.take_of_length_le h9]
    · obtain ⟨A, cap', hv, _, _, _, hcells⟩ := hown.form
      simp only [Value.slice.injEq, true_and] at hv
      obtain ⟨rfl, rfl⟩ := hv
      obtain ⟨_, _, holds, _⟩ := hcells g o rfl
      have hf := run_firstCells_some (P := P) w.drew i0.size n ⟨g, o, none⟩ n cap xs hown.1 (fun j u hu => by rw [hadd]; exact holds j u hu)
      have hge := grownCap_ge w (n + m) cap e
      have hcm2 : grownCap w (n + m) cap e ≤ maxLen := grownCap_le_maxLen w (n + m) cap e hm
      have hr := run_append_grow_src (P := P) w t tx ty e i0 z ht hi hz0 (some ⟨g, o, none⟩) n cap xs hf x m news hs (by omega) (by omega) (growslice_fits (by omega) hb)
      refine ⟨_, _, hr, ⟨hlen, .inr ⟨w.heap.size, 0, _, _, rfl, hbase, heap_alloc_new w.drew _, hge, hcm2, ?_, ?_⟩⟩, ⟨rfl, rfl, rfl, by simp, fun k hk _ => Below.heap_alloc w.drew _ k hk⟩, .inr ⟨((Below.refl w.heap.size w).drew).alloc (by simp) _, fun q hq => by simpa [Value.ownBlock] using hq.symm⟩, RowAt.keep hown fun k hk => Below.heap_alloc w.drew _ k (hown.lt k hk).2⟩
      · rw [Array.size_append, List.size_toArray, hlen, size_zeroCells, he.zero, ← Nat.add_mul, Nat.zero_add]
        exact Nat.le_of_eq (by congr 1; omega)
      · rw [List.drop_zero, Array.toList_append, ← hlen]
        exact List.take_left
theorem own_slice (A : Option Addr) (n c n' c' : Nat) : (Value.slice A n c).ownBlock = (Value.slice A n' c').ownBlock := by cases A <;> rfl
/-- A list v of n elements has grown into lv, by m elements; all else of what was there at w0 is as it was. -/
structure Grow (w0 w : World) (lo : Nat) (e : TypeId) (size : Nat) (v : Value) (n : Nat) (xs : List Value) (lv : Value) (m : Nat) (ys : List Value) : Prop where
  row : RowAt w lo e size lv (n + m) (xs ++ ys)
  old : RowAt w lo e size v n xs
  way : (∃ A cap, v = .slice A n cap ∧ lv = .slice A (n + m) cap) ∨ ((∀ q, lv.ownBlock = some q → w0.heap.size ≤ q) ∧ ∀ q, v.ownBlock = some q → q < w0.heap.size)
  many : Many (fun q => v.ownBlock = some q) w0 w
theorem Grow.start {w : World} {lo : Nat} {e : TypeId} {size : Nat} {v : Value} {n : Nat} {xs : List Value} (h : RowAt w lo e size v n xs) : Grow w w lo e size v n xs v 0 [] := by
  obtain ⟨A, cap, hv, -⟩ := h.form
  exact ⟨by rw [Nat.add_zero, List.append_nil]; exact h, h, .inl ⟨A, cap, hv, by rw [Nat.add_zero]; exact hv⟩, Many.refl _ _⟩
theorem Grow.below {w0 w w' : World} {lo : Nat} {e : TypeId} {size : Nat} {v lv : Value} {n m : Nat} {xs ys : List Value} (h : Grow w0 w lo e size v n xs lv m ys) (hb : Below w.heap.size w w') : Grow w0 w' lo e size v n xs lv m ys :=
  ⟨h.row.below hb, h.old.below hb, h.way, h.many.then hb⟩
theorem Grow.step {P : Program} {w0 w : World} {lo : Nat} {t tx e : TypeId} {z : Value} {size bytes : Nat} (he : Elem P t e z size bytes) {v lv : Value} {n m : Nat} {xs ys : List Value} (h : Grow w0 w lo e size v n xs lv m ys) (hv0 : ∀ q, v.ownBlock = some q → q < w0.heap.size)
    {x : Value} {k : Nat} {news : List Value} (hs : Src P size tx x k news w) (ty : TypeId) (hm : n + m + k ≤ maxLen) (hb : (n + m + k) * bytes ≤ 140737488355328) (hbase : lo ≤ w.heap.size) :
    ∃ lv' w', (Builtin.append_ #[t, tx] ty #[lv, x]).run P w = .ok lv' w' ∧ Grow w0 w' lo e size v n xs lv' (m + k) (ys ++ news) := by
  obtain ⟨lv', w', hr, hrow, hg, hway, hold⟩ := appendAt_room he h.row hs ty hm hb hbase
  refine ⟨lv', w', hr, by rw [← List.append_assoc, ← Nat.add_assoc]; exact hrow, ?_, ?_, ?_⟩
  · rcases h.way with ⟨A, cap, rfl, rfl⟩ | ⟨h1, h2⟩
    · refine RowAt.front hold h.old.1 fun hA => ?_
      rcases h.old.2 with ⟨e1, _⟩ | ⟨g, o, c, cur, e1, _⟩
      · simp only [Value.slice.injEq] at e1; exact e1.2.2
      · subst hA; simp at e1
    · refine h.old.keep fun q hq => hg.block q (h.old.lt q hq).2 fun e1 => ?_
      have := h1 q e1.symm
      have := h2 q hq
      omega
  · rcases hway with ⟨A, cap, e1, e2, _⟩ | ⟨hB, hnew⟩
    · rcases h.way with ⟨A', cap', rfl, e3⟩ | ⟨h1, h2⟩
      · rw [e3] at e1
        simp only [Value.slice.injEq, true_and] at e1
        obtain ⟨rfl, rfl⟩ := e1
        exact .inl ⟨_, _, rfl, by rw [e2, Nat.add_assoc]⟩
      · refine .inr ⟨fun q hq => h1 q ?_, h2⟩
        rw [e1]
        rw [e2] at hq
        exact (own_slice _ _ _ _ _).trans hq
    · exact .inr ⟨fun q hq => by rw [hnew q hq]; exact h.many.size, hv0⟩
  · rcases h.way with ⟨A, cap, rfl, rfl⟩ | ⟨h1, h2⟩
    · exact h.many.grown hg fun b hb => by
        exact (own_slice _ _ _ _ _).trans hb
    · exact h.many.trans' (S' := fun q => lv.ownBlock = some q) ⟨hg.os, hg.tape, hg.output, hg.size, fun q hq hn => hg.block q hq fun e1 => hn e1.symm⟩ fun q hq hq2 => absurd (h1 q hq2) (by omega)
end Go.Proofs.YtehnobcjoaclcaaGreat
