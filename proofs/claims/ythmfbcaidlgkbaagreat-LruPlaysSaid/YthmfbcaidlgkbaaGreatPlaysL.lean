/- What LruPlays plays with: its operations; the cache, the document's own cache and the book beside each other. -/
import Derived.Test.YthmfbcaidlgkbaaGreatRefM
import Derived.Test.YthmfbcaidlgkbaaGreatBookI
import Derived.Test.YthmfbcaidlgkbaaGreatPushI
namespace Go.Proofs.YthmfbcaidlgkbaaGreat
open Go Go.RowKit Go.ChangeShapes Go.WideShapes Go.Deep LruP
set_option maxRecDepth 100000

structure OpL where
  kind : Int
  k : Int
  v : Int
instance : Inhabited OpL := ⟨⟨0, 0, 0⟩⟩
def opCells (a : OpL) : List Value := [.int .i64 a.kind, .int .i64 a.k, .int .i64 a.v]
def OpL.Good (a : OpL) : Prop := i64ok a.kind ∧ i64ok a.k ∧ i64ok a.v
theorem ops5_open {H : Type} {enc : TypeId × Value → H} {w : World} {base : Nat} {r : Reach} {v : Value} {d : DataW H} {p : List MemPlace} (hv : Value.okWide Tryz.prog w r base 22 v)
    (h : DataW.Trod enc Tryz.prog w 0 (fun _ => true) true 22 v d p) : ∃ l : List OpL, (∀ x ∈ l, OpL.Good x) ∧ SliceAt 3 opCells w v l :=
  slice_open Tryz.underlying22 (by kernel_rfl) (by omega) (fun cs n sp held x ht hl => by
    obtain ⟨xs, m, _, _, _, hxl, hf⟩ := DataW.trod_struct Tryz.underlying53 ht
    match cs, hl, hf with
    | [c0, c1, c2], _, hf =>
      have k3 : Tryz.prog.cellsOf 3 = 1 := by kernel_rfl
      have f0 := hf 0 _ rfl
      have f1 := hf 1 _ rfl
      have f2 := hf 2 _ rfl
      simp [k3] at f0 f1 f2
      have hx3 : xs.length = 3 := hxl
      obtain ⟨n0, e0, _, w0⟩ := DataW.trod_int Tryz.underlying3 (f0.trans (List.getElem?_eq_getElem (by omega)))
      obtain ⟨n1, e1, _, w1⟩ := DataW.trod_int Tryz.underlying3 (f1.trans (List.getElem?_eq_getElem (by omega)))
      obtain ⟨n2, e2, _, w2⟩ := DataW.trod_int Tryz.underlying3 (f2.trans (List.getElem?_eq_getElem (by omega)))
      simp only [List.cons.injEq, and_true] at e0 e1 e2
      subst e0 e1 e2
      have b0 := bounds_i64 w0
      have b1 := bounds_i64 w1
      have b2 := bounds_i64 w2
      exact ⟨⟨n0, n1, n2⟩, ⟨by unfold i64ok; simp only; omega, by unfold i64ok; simp only; omega, by unfold i64ok; simp only; omega⟩, rfl⟩) hv h

section
variable {w w' : World} {S : Nat → Prop}
theorem own_many {base size n : Nat} {e : TypeId} {v : Value} {xs : List Value} (h : w.ownsRow base e size v n xs) (hm : Many S w w') (hS : ∀ k t cs, S k → Sits w k t cs → t ≠ e) : w'.ownsRow base e size v n xs := by
  obtain ⟨e0, hh | ⟨g, cap, cur, e1, g1, g2, g3⟩⟩ := h
  · exact ⟨e0, .inl hh⟩
  · have hs : Sits w g e cur := g2
    exact ⟨e0, .inr ⟨g, cap, cur, e1, g1, hs.many hm fun hk => hS g e cur hk hs rfl, g3⟩⟩
/-- The book stays where other blocks turn. -/
theorem BookAt.many {p lo : Nat} {ks : List (Option Nat × Nat)} {ts : List Value} (h : BookAt w p lo ks ts) (hm : Many S w w')
    (hS : ∀ k t cs, S k → Sits w k t cs → t ≠ 51 ∧ t ≠ 62 ∧ t ≠ 3) : BookAt w' p lo ks ts := by
  obtain ⟨iv, wv, h1, h2, h3, h4⟩ := h.rows
  refine ⟨⟨iv, wv, h1.many hm fun hk => (hS _ _ _ hk h1).1 rfl, own_many h2 hm fun k t cs hk hs => (hS k t cs hk hs).2.1, own_many h3 hm fun k t cs hk hs => (hS k t cs hk hs).2.1, h4⟩, h.one, h.len, h.few, h.small, fun i x g hx hg => ?_, h.nodup, fun i x y hx hy => ?_, h.lo_p, h.lo_g⟩
  · obtain ⟨cs, e1, e2⟩ := h.blocks i x g hx hg
    exact ⟨cs, e1.many hm fun hk => (hS _ _ _ hk e1).2.2 rfl, e2⟩
  · obtain ⟨l, e1, e2⟩ := h.same i x y hx hy
    refine ⟨l, ints_many e1 hm fun b o h0 ⟨n, c, e⟩ hb => ?_, e2.keep fun k hk => ?_⟩
    · cases hx1 : x.1 with
      | none => unfold keptV at e; rw [hx1] at e; simp at e
      | some g =>
        obtain ⟨cs, q1, _⟩ := h.blocks i x g hx hx1
        unfold keptV at e
        rw [hx1] at e
        simp only [Option.map_some, Value.slice.injEq, Option.some.injEq, Addr.mk.injEq, and_true] at e
        obtain ⟨⟨rfl, _⟩, _⟩ := e
        exact (hS _ _ _ hb q1).2.2 rfl
    · obtain ⟨cur, hc⟩ := RowAt.sits e2 k hk
      exact hm.block k hc.lt fun hk' => (hS _ _ _ hk' hc).2.2 rfl
theorem RefL.many {rb lo : Nat} {room : Int} {T : List (Slot Int Int)} (h : RefL w rb lo room T) (hm : Many S w w') (hS : ∀ k t cs, S k → Sits w k t cs → t ≠ 30 ∧ t ≠ 59) : RefL w' rb lo room T := by
  obtain ⟨v, hs, hr⟩ := h.rows
  exact ⟨⟨v, hs.many hm fun hk => (hS _ _ _ hk hs).1 rfl, own_many hr hm fun k t cs hk hs => (hS k t cs hk hs).2⟩, h.lo_r⟩
theorem Many.of_only {q : Nat} (h : Only q w w') : Many (fun k => k = q) w w' := ⟨h.os, h.tape, h.output, h.size, h.block⟩
/-- The blocks of caches are neither the book's nor the document's own cache's. -/
theorem blkL_types {k t : Nat} {cs : Array Value} (h : BlkLII w k) (hs : Sits w k t cs) : t = 80 ∨ t = 71 := by
  have e : w.heap[k]? = some (.cells cs t (0, 0)) := hs
  unfold BlkLII Sits at h
  rw [e] at h
  rcases h with ⟨_, h⟩ | ⟨_, h⟩ | ⟨_, _, h⟩
  · simp at h; exact .inl h.2
  · simp at h; exact .inr h.2
  · simp at h
theorem BookAt.shy {p lo : Nat} {ks : List (Option Nat × Nat)} {ts : List Value} (h : BookAt w p lo ks ts) (hs : ShyLII w w') : BookAt w' p lo ks ts :=
  h.many hs fun k t cs hk ht => by rcases blkL_types hk ht with rfl | rfl <;> decide
theorem RefL.shy {rb lo : Nat} {room : Int} {T : List (Slot Int Int)} (h : RefL w rb lo room T) (hs : ShyLII w w') : RefL w' rb lo room T :=
  h.many hs fun k t cs hk ht => by rcases blkL_types hk ht with rfl | rfl <;> decide
theorem sits_type {k t t' : Nat} {cs cs' : Array Value} (h : Sits w k t cs) (h' : Sits w k t' cs') : t = t' := by
  have := (show w.heap[k]? = _ from h).symm.trans h'
  simp at this
  exact this.2
theorem BookAt.ref {p lo rb lo' : Nat} {room : Int} {T : List (Slot Int Int)} {ks : List (Option Nat × Nat)} {ts : List Value} (h : BookAt w p lo ks ts) (hr : RefL w rb lo' room T) (ho : Only rb w w') : BookAt w' p lo ks ts :=
  h.many (Many.of_only ho) fun k t cs hk ht => by
    obtain ⟨v, hs, _⟩ := hr.rows
    subst hk
    rw [sits_type ht hs]; decide
theorem LruAtII.ref {cb lo c rb lo' : Nat} {room room' : Int} {T T' : List (Slot Int Int)} (h : LruAtII w cb lo c room T) (hr : RefL w rb lo' room' T') (ho : Only rb w w') : LruAtII w' cb lo c room T :=
  h.many (Many.of_only ho) fun k _ hk => by
    obtain ⟨v, hs, _⟩ := hr.rows
    subst hk
    exact ⟨_, _, hs, by decide, by decide, by decide⟩
theorem LruAtII.book {cb lo c : Nat} {room : Int} {T : List (Slot Int Int)} (h : LruAtII w cb lo c room T) (hm : Many (BlkB w) w w') : LruAtII w' cb lo c room T :=
  h.many hm fun k _ hk => by
    rcases hk with ⟨cs, hs⟩ | ⟨cs, hs⟩
    · exact ⟨_, _, hs, by decide, by decide, by decide⟩
    · exact ⟨_, _, hs, by decide, by decide, by decide⟩
theorem RefL.book {rb lo : Nat} {room : Int} {T : List (Slot Int Int)} (h : RefL w rb lo room T) (hm : Many (BlkB w) w w') : RefL w' rb lo room T :=
  h.many hm fun k t cs hk ht => by
    rcases hk with ⟨cs, hs⟩ | ⟨cs, hs⟩ <;> (rw [sits_type ht hs]; decide)
/-- Each key of a cache is there once; pins are never less than none. -/
theorem LruAtII.once {cb lo c : Nat} {room : Int} {T : List (Slot Int Int)} (h : LruAtII w cb lo c room T) : Once T ∧ ∀ s ∈ T, 0 ≤ s.pins := by
  rcases h with ⟨rfl, _⟩ | ⟨z, m, nx, L, h, rfl⟩
  · exact ⟨List.Pairwise.nil, by simp⟩
  · obtain ⟨D, _, hD⟩ := h.shelf.map
    refine ⟨List.Pairwise.map _ (fun a b hab => hab) hD.keys, fun s hs => ?_⟩
    obtain ⟨e, he, rfl⟩ := List.mem_map.1 hs
    exact h.shelf.aged.pins e he
end
end Go.Proofs.YthmfbcaidlgkbaaGreat
