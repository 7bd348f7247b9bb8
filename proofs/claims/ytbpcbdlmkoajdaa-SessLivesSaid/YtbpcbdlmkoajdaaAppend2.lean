/- append once more: what it leaves of other rows of the call's own. -/
import Derived.Test.YtbpcbdlmkoajdaaAppend
namespace Go.Proofs.Ytbpcbdlmkoajdaa
open Go Go.RowKit
set_option maxRecDepth 100000

theorem own_stays {w w' : World} {base : Nat} {e : TypeId} {size : Nat} {v : Value} {n : Nat} {xs : List Value} (h : w.ownsRow base e size v n xs) (hb : ∀ k, k < w.heap.size → w'.heap[k]? = w.heap[k]?) : w'.ownsRow base e size v n xs := by
  refine ⟨h.1, ?_⟩
  rcases h.2 with hn | ⟨g, cap, cur, rfl, h0, hg, rest⟩
  · exact .inl hn
  · exact .inr ⟨g, cap, cur, rfl, h0, (hb g (Array.getElem?_eq_some_iff.1 hg).1).trans hg, rest⟩
/-- append's run, with what it leaves of the call's own rows that are no longer. -/
theorem append_src2 {P : Program} {w : World} {base : Nat} {t tx e : TypeId} {z : Value} {size bytes : Nat} (he : Elem P t e z size bytes) {v : Value} {n : Nat} {xs : List Value} (hown : w.ownsRow base e size v n xs)
    {x : Value} {m : Nat} {news : List Value} (hs : Src P size tx x m news w) (ty : TypeId) (hm : n + m ≤ maxLen) (hb : (n + m) * bytes ≤ 140737488355328) (hbase : base ≤ w.heap.size) :
    ∃ v' w', (Builtin.append_ #[t, tx] ty #[v, x]).run P w = .ok v' w' ∧ w'.ownsRow base e size v' (n + m) (xs ++ news) ∧ w.grownBy w' v.ownBlock ∧
      (∀ v0 n0 xs0, n0 ≤ n → w.ownsRow base e size v0 n0 xs0 → w'.ownsRow base e size v0 n0 xs0) ∧ (∀ k cs, (∀ c, v = .slice (some ⟨k, 0, none⟩) n c → cs.size < (n + m) * size) → Sits w k e cs → Sits w' k e cs) ∧ (∀ v0, w.ownsRow base e size v0 (n + m) (xs ++ news) → w'.ownsRow base e size v0 (n + m) (xs ++ news)) := by
  obtain ⟨i0, hi, hz0, rfl, rfl⟩ := info_parts he.info
  have hmx : maxLen = 9223372036854775807 := by decide
  have ht := he.slice
  have hpos := he.pos
  have hlen : (xs ++ news).length = (n + m) * i0.size := by rw [List.length_append, hown.1, hs.newsLen, Nat.add_mul]
  have stays : ∀ {W : World} (o : Obj), W.heap = w.heap → (∀ v0 n0 xs0, n0 ≤ n → w.ownsRow base e i0.size v0 n0 xs0 → (W.alloc o).ownsRow base e i0.size v0 n0 xs0) ∧ (∀ k cs, (∀ c, v = .slice (some ⟨k, 0, none⟩) n c → cs.size < (n + m) * i0.size) → Sits w k e cs → Sits (W.alloc o) k e cs) ∧ (∀ v0, w.ownsRow base e i0.size v0 (n + m) (xs ++ news) → (W.alloc o).ownsRow base e i0.size v0 (n + m) (xs ++ news)) := by
    intro W o hW
    have hb : ∀ k, k < w.heap.size → (W.alloc o).heap[k]? = w.heap[k]? := fun k hk => by rw [Below.heap_alloc W o k (by rw [hW]; exact hk), hW]
    exact ⟨fun v0 n0 xs0 _ h0 => own_stays h0 hb, fun k cs _ hs => (hb k hs.lt).trans hs, fun v0 h0 => own_stays h0 hb⟩
  have grown : ∀ (old : Nat), old < n + m → ∀ (row : Option Nat),
      (w.drew.alloc (.cells ((xs ++ news).toArray ++ Builtin.zeroCells z.cells (grownCap w (n + m) old e - (n + m))) e)).ownsRow base e i0.size
        (.slice (some ⟨w.heap.size, 0, none⟩) (n + m) (grownCap w (n + m) old e)) (n + m) (xs ++ news) ∧
      w.grownBy (w.drew.alloc (.cells ((xs ++ news).toArray ++ Builtin.zeroCells z.cells (grownCap w (n + m) old e - (n + m))) e)) row := by
    intro old ho row
    have hge := grownCap_ge w (n + m) old e
    have hcm : grownCap w (n + m) old e ≤ maxLen := grownCap_le_maxLen w (n + m) old e hm
    refine ⟨⟨hlen, .inr ⟨w.heap.size, _, _, rfl, hbase, heap_alloc_new w.drew _, hge, hcm, ?_, ?_⟩⟩, ⟨rfl, rfl, rfl, by simp, fun k hk _ => Below.heap_alloc w.drew _ k hk⟩⟩
    · rw [Array.size_append, List.size_toArray, hlen, size_zeroCells, he.zero, ← Nat.add_mul]
      congr 1
      omega
    · rw [Array.toList_append, ← hlen]
      exact List.take_left
  rcases hown.2 with ⟨rfl, rfl⟩ | ⟨g, cap, cur, rfl, hbg, hg, hnc, hcm, hcs, htake⟩
  · obtain rfl : xs = [] := List.eq_nil_of_length_eq_zero (by simpa using hown.1)
    by_cases h0 : m = 0
    · subst h0
      obtain rfl : news = [] := List.eq_nil_of_length_eq_zero (by simpa using hs.newsLen)
      have hr : (Builtin.append_ #[t, tx] ty #[.slice none 0 0, x]).run P w = .ok (.slice none 0 0) w := by
        have hl := hs.len
        have hc := hs.cells
        rcases hs.kind with ⟨e', hk⟩ | hk <;> simp [Builtin.append_, run_underlying ht, run_underlying hk, sizeOf, typeInfo, hi, hl, hc]
      exact ⟨_, _, hr, World.ownsRow_nil w base _ _, World.grownBy.refl w _, fun _ _ _ _ h => h, fun _ _ _ h => h, fun _ h => h⟩
    · have hgr := grown 0 (by omega) (Value.ownBlock (.slice none 0 0))
      have hf : (Builtin.firstCells i0.size 0 (.slice none 0 0)).run P w.drew = .ok ([] : List Value).toArray w.drew := by simp [Builtin.firstCells]
      have hr := run_append_grow_src (P := P) w t tx ty e i0 z ht hi hz0 none 0 0 [] hf x m news hs (by omega) (by omega) (growslice_fits (by omega) hb)
      exact ⟨_, _, hr, hgr.1, hgr.2, stays (W := w.drew) _ rfl⟩
  · by_cases hroom : n + m ≤ cap
    · have hle : (n + m) * i0.size ≤ cap * i0.size := Nat.mul_le_mul_right _ hroom
      have hst := run_storeCells_at P g (n * i0.size) e news 0 cur w hg (by rw [hs.newsLen, hcs, Nat.add_zero, ← Nat.add_mul]; exact hle) hs.one
      have hl := hs.len
      have hc := hs.cells
      have hr : (Builtin.append_ #[t, tx] ty #[.slice (some ⟨g, 0, none⟩) n cap, x]).run P w = .ok (.slice (some ⟨g, 0, none⟩) (n + m) cap) (w.setRow g (cur.toList.take (n * i0.size + 0) ++ news ++ cur.toList.drop (n * i0.size + 0 + news.length)).toArray) := by
        rcases hs.kind with ⟨e', hk⟩ | hk <;> simp [Builtin.append_, run_underlying ht, run_underlying hk, sizeOf, typeInfo, hi, hl, hroom, hc, Addr.add_lit] <;> rw [hst] <;> simp
      refine ⟨_, _, hr, ⟨hlen, .inr ⟨g, cap, _, rfl, hbg, setRow_heap w g cur _ _ _ hg, hroom, hcm, ?_, ?_⟩⟩, ⟨rfl, rfl, rfl, by simp [World.setRow], fun k _ hk => setRow_other w g k _ (fun e => hk (by simp [Value.ownBlock, e]))⟩, ?_, ?_, ?_⟩
      · simp only [List.size_toArray, List.length_append, List.length_take, List.length_drop, Array.length_toList, hs.newsLen, hcs, Nat.add_zero]
        rw [Nat.add_mul] at hle
        omega
      · rw [Nat.add_zero, htake, ← hlen]
        exact List.take_left
      · intro v0 n0 xs0 h0 hown0
        refine ⟨hown0.1, ?_⟩
        rcases hown0.2 with hn | ⟨g0, cap0, cur0, rfl, hb0, hg0, h1, h2, h3, h4⟩
        · exact .inl hn
        · by_cases e : g0 = g
          · subst e
            rw [hg] at hg0
            cases hg0
            refine .inr ⟨g0, cap0, _, rfl, hb0, setRow_heap w g0 cur _ _ _ hg, h1, h2, ?_, ?_⟩
            · simp only [List.size_toArray, List.length_append, List.length_take, List.length_drop, Array.length_toList, hs.newsLen, Nat.add_zero]
              rw [Nat.add_mul] at hle
              omega
            · have hle0 := Nat.mul_le_mul_right i0.size h0
              have hc0 := Nat.mul_le_mul_right i0.size hnc
              rw [Nat.add_zero, List.append_assoc, List.take_append_of_le_length (by rw [List.length_take, Array.length_toList]; omega), List.take_take, Nat.min_eq_left hle0]
              exact h4
          · exact .inr ⟨g0, cap0, cur0, rfl, hb0, (setRow_other w g g0 _ e).trans hg0, h1, h2, h3, h4⟩
      · intro k cs hk hsk
        refine (setRow_other w g k _ (fun e => ?_)).trans hsk
        subst e
        have := hk cap rfl
        rw [show w.heap[k]? = some (.cells cs e (0, 0)) from hsk] at hg
        cases hg
        omega
      · intro v0 hown0
        refine ⟨hown0.1, ?_⟩
        rcases hown0.2 with hn | ⟨g0, cap0, cur0, rfl, hb0, hg0, h1, h2, h3, h4⟩
        · exact .inl hn
        · by_cases e : g0 = g
          · subst e
            rw [hg] at hg0
            cases hg0
            refine .inr ⟨g0, cap0, _, rfl, hb0, setRow_heap w g0 cur _ _ _ hg, h1, h2, ?_, ?_⟩
            · simp only [List.size_toArray, List.length_append, List.length_take, List.length_drop, Array.length_toList, hs.newsLen, Nat.add_zero]
              rw [Nat.add_mul] at hle
              omega
            · rw [Nat.add_zero, htake, ← hlen]
              exact List.take_left
          · exact .inr ⟨g0, cap0, cur0, rfl, hb0, (setRow_other w g g0 _ e).trans hg0, h1, h2, h3, h4⟩
    · have holds : ∀ j u, xs[j]? = some u → w.cell? ((⟨g, 0, none⟩ : Addr).add j) = some u := hown.cells (g := g) rfl
      have hf := run_firstCells_some (P := P) w.drew i0.size n ⟨g, 0, none⟩ n cap xs hown.1 (by simpa using holds)
      have hgr := grown cap (by omega) (Value.ownBlock (.slice (some ⟨g, 0, none⟩) n cap))
      have hr := run_append_grow_src (P := P) w t tx ty e i0 z ht hi hz0 (some ⟨g, 0, none⟩) n cap xs hf x m news hs (by omega) (by omega) (growslice_fits (by omega) hb)
      exact ⟨_, _, hr, hgr.1, hgr.2, stays (W := w.drew) _ rfl⟩

/-- append of nothing onto nil: nil. -/
theorem append_none {P : Program} {w : World} {t tx e : TypeId} {z : Value} {size bytes : Nat} (he : Elem P t e z size bytes) {x : Value} {news : List Value} (hs : Src P size tx x 0 news w) (ty : TypeId) :
    (Builtin.append_ #[t, tx] ty #[.slice none 0 0, x]).run P w = .ok (.slice none 0 0) w := by
  obtain ⟨i0, hi, hz0, rfl, rfl⟩ := info_parts he.info
  obtain rfl : news = [] := List.eq_nil_of_length_eq_zero (by simpa using hs.newsLen)
  have ht := he.slice
  have hl := hs.len
  have hc := hs.cells
  rcases hs.kind with ⟨e', hk⟩ | hk <;> simp [Builtin.append_, run_underlying ht, run_underlying hk, sizeOf, typeInfo, hi, hl, hc]
end Go.Proofs.Ytbpcbdlmkoajdaa
