/- HeapPlays: the heap, the document's own heap and the book beside each other. -/
import Derived.Test.YtfjpoadmbdjmnaaGreatRefP
import Derived.Test.YtfjpoadmbdjmnaaGreatHeapHI
import Derived.Test.YtfjpoadmbdjmnaaGreatBookP
import Derived.Test.YtfjpoadmbdjmnaaGreatInts
namespace Go.Proofs.YtfjpoadmbdjmnaaGreat
open Go Go.RowKit Go.ChangeShapes Go.WideShapes Go.Deep HeapP
set_option maxRecDepth 100000
set_option maxHeartbeats 2000000
set_option linter.unusedSimpArgs false

structure OpH where
  kind : Int
  n : Int
  v : Int
instance : Inhabited OpH := ⟨⟨0, 0, 0⟩⟩
def opCells (a : OpH) : List Value := [.int .i64 a.kind, .int .i64 a.n, .int .i64 a.v]
def OpH.Good (a : OpH) : Prop := i64ok a.kind ∧ i64ok a.n ∧ i64ok a.v
theorem ops4_open {H : Type} {enc : TypeId × Value → H} {w : World} {base : Nat} {r : Reach} {v : Value} {d : DataW H} {p : List MemPlace} (hv : Value.okWide Tryz.prog w r base 22 v)
    (h : DataW.Trod enc Tryz.prog w 0 (fun _ => true) true 22 v d p) : ∃ l : List OpH, (∀ x ∈ l, OpH.Good x) ∧ SliceAt 3 opCells w v l :=
  slice_open Tryz.underlying22 (by kernel_rfl) (by omega) (fun cs n sp held x ht hl => by
    obtain ⟨xs, m, _, _, _, hxl, hf⟩ := DataW.trod_struct Tryz.underlying52 ht
    match cs, hl, hf with
    | [c0, c1, c2], _, hf =>
      have k3 : Tryz.prog.cellsOf 3 = 1 := by kernel_rfl
      have f0 := hf 0 _ rfl
      have f1 := hf 1 _ rfl
      have f2 := hf 2 _ rfl
      simp [k3] at f0 f1 f2
      have hx3 : xs.length = 3 := hxl
      obtain ⟨n0, e0, _, w0⟩ := DataW.trod_int Tryz.underlying3 (f0.trans (List.getElem?_eq_getElem (by omega)))
      obtain ⟨n1, e1, _, w1⟩ := DataW.trod_int Tryz.underlying3 (f1.trans (List.getElem?_eq_getElem (by omega)))
      obtain ⟨n2, e2, _, w2⟩ := DataW.trod_int Tryz.underlying3 (f2.trans (List.getElem?_eq_getElem (by omega)))
      simp only [List.cons.injEq, and_true] at e0 e1 e2
      subst e0 e1 e2
      have b0 := bounds_i64 w0
      have b1 := bounds_i64 w1
      have b2 := bounds_i64 w2
      exact ⟨⟨n0, n1, n2⟩, ⟨by unfold i64ok; simp only; omega, by unfold i64ok; simp only; omega, by unfold i64ok; simp only; omega⟩, rfl⟩) hv h
section
variable {w w' : World} {S : Nat → Prop}
theorem own_many {base size n : Nat} {e : TypeId} {v : Value} {xs : List Value} (h : w.ownsRow base e size v n xs) (hm : Many S w w') (hS : ∀ k t cs, S k → Sits w k t cs → t ≠ e) : w'.ownsRow base e size v n xs := by
  obtain ⟨e0, hh | ⟨g, cap, cur, e1, g1, g2, g3⟩⟩ := h
  · exact ⟨e0, .inl hh⟩
  · have hs : Sits w g e cur := g2
    exact ⟨e0, .inr ⟨g, cap, cur, e1, g1, hs.many hm fun hk => hS g e cur hk hs rfl, g3⟩⟩
/-- The book stays where other blocks turn. -/
theorem BookAt.many {p lo : Nat} {ks : List (Option Nat × Nat)} {ts : List Value} (h : BookAt w p lo ks ts) (hm : Many S w w')
    (hS : ∀ k t cs, S k → Sits w k t cs → t ≠ 50 ∧ t ≠ 63 ∧ t ≠ 3) : BookAt w' p lo ks ts := by
  obtain ⟨iv, wv, h1, h2, h3, h4⟩ := h.rows
  refine ⟨⟨iv, wv, h1.many hm fun hk => (hS _ _ _ hk h1).1 rfl, own_many h2 hm fun k t cs hk hs => (hS k t cs hk hs).2.1, own_many h3 hm fun k t cs hk hs => (hS k t cs hk hs).2.1, h4⟩, h.one, h.len, h.few, h.small, fun i x g hx hg => ?_, h.nodup, fun i x y hx hy => ?_, h.lo_p, h.lo_g⟩
  · obtain ⟨cs, e1, e2⟩ := h.blocks i x g hx hg
    exact ⟨cs, e1.many hm fun hk => (hS _ _ _ hk e1).2.2 rfl, e2⟩
  · obtain ⟨l, e1, e2⟩ := h.same i x y hx hy
    refine ⟨l, ints_many e1 hm fun b o h0 ⟨n, c, e⟩ hb => ?_, e2.keep fun k hk => ?_⟩
    · cases hx1 : x.1 with
      | none => unfold keptV at e; rw [hx1] at e; simp at e
      | some g =>
        obtain ⟨cs, q1, _⟩ := h.blocks i x g hx hx1
        unfold keptV at e
        rw [hx1] at e
        simp only [Option.map_some, Value.slice.injEq, Option.some.injEq, Addr.mk.injEq, and_true] at e
        obtain ⟨⟨rfl, _⟩, _⟩ := e
        exact (hS _ _ _ hb q1).2.2 rfl
    · obtain ⟨cur, hc⟩ := RowAt.sits e2 k hk
      exact hm.block k hc.lt fun hk' => (hS _ _ _ hk' hc).2.2 rfl
end
theorem sits_type {w : World} {k t t' : Nat} {cs cs' : Array Value} (h : Sits w k t cs) (h' : Sits w k t' cs') : t = t' := by
  have := (show w.heap[k]? = _ from h).symm.trans h'
  simp at this
  exact this.2

theorem HeapAtI.many {S : Nat → Prop} {w w' : World} {hb lo c : Nat} {last : Int} {L : List (HeapP.It Int)} (h : HeapAtI w hb lo c last L) (hm : Many S w w') (hS : ∀ k, S k → ∃ t cs, Sits w k t cs ∧ t ≠ 32 ∧ t ≠ 75 ∧ t ≠ 71) : HeapAtI w' hb lo c last L := by
  have hq : ∀ b, BlkI w b → w'.heap[b]? = w.heap[b]? := fun b hb' => by
    have hlt : b < w.heap.size := by
      rcases hb' with ⟨_, hk⟩ | ⟨_, hk⟩ | ⟨_, _, hk⟩
      · exact hk.lt
      · exact hk.lt
      · exact (Array.getElem?_eq_some_iff.1 hk).1
    refine hm.block b hlt fun hs => ?_
    obtain ⟨t, cs, hs, h1, h2, h3⟩ := hS b hs
    rcases hb' with ⟨_, hk⟩ | ⟨_, hk⟩ | ⟨_, _, hk⟩
    · exact (hk.apart hs (Ne.symm h2)) rfl
    · exact (hk.apart hs (Ne.symm h3)) rfl
    · exact absurd (hk.symm.trans hs) (by simp)
  have hh : ∀ cs, Sits w hb 32 cs → Sits w' hb 32 cs := fun cs e => (hm.block hb e.lt fun hs => by
    obtain ⟨t, cs', hs, h1, h2, h3⟩ := hS hb hs
    exact (e.apart hs (Ne.symm h1)) rfl).trans e
  refine { h with at_ := ?_ }
  rcases h.at_ with ⟨e1, e2, e3⟩ | ⟨p, e1, e2⟩
  · exact .inl ⟨e1, e2, hh _ e3⟩
  · exact .inr ⟨p, hh _ e1, e2.keep hq⟩
theorem RefAt.many {S : Nat → Prop} {w w' : World} {h lo : Nat} {last : Int} {L : List (HeapP.It Int)} (hR : RefAt w h lo last L) (hm : Many S w w') (hS : ∀ k t cs, S k → Sits w k t cs → t ≠ 29 ∧ t ≠ 57) : RefAt w' h lo last L := by
  obtain ⟨v, hs, hr⟩ := hR.rows
  exact ⟨⟨v, hs.many hm fun hk => (hS _ _ _ hk hs).1 rfl, own_many hr hm fun k t cs hk hs => (hS k t cs hk hs).2⟩, hR.lo_h⟩
theorem RefAt.below {w w' : World} {h lo : Nat} {last : Int} {L : List (HeapP.It Int)} (hR : RefAt w h lo last L) (hb : Below w.heap.size w w') : RefAt w' h lo last L := by
  obtain ⟨v, hs, hr⟩ := hR.rows
  exact ⟨⟨v, hs.below' hb, own_stays hr hb.block⟩, hR.lo_h⟩
def opC (a : OpH) : Array Value := #[.int .i64 a.kind, .int .i64 a.n, .int .i64 a.v]
/-- What stands within a round. -/
structure StP (w wx : World) (hb rb kb ob c : Nat) (last : Int) (L : List (HeapP.It Int)) (ks : List (Option Nat × Nat)) (ts : List Value) (a : OpH) : Prop where
  heap : HeapAtI wx hb w.heap.size c last L
  ref : RefAt wx rb w.heap.size last L
  book : BookAt wx kb w.heap.size ks ts
  low : Below w.heap.size w wx
  op : Sits wx ob 52 (opC a)
section
variable {w wx wy : World} {hb rb kb ob c c' : Nat} {last last' : Int} {L L' : List (HeapP.It Int)} {ks : List (Option Nat × Nat)} {ts : List Value} {a : OpH}
theorem StP.cells (h : StP w wx hb rb kb ob c last L ks ts a) : wx.cell? ⟨ob, 0, none⟩ = some (.int .i64 a.kind) ∧ wx.cell? ⟨ob, 1, none⟩ = some (.int .i64 a.n) ∧ wx.cell? ⟨ob, 2, none⟩ = some (.int .i64 a.v) := ⟨h.op.cell 0, h.op.cell 1, h.op.cell 2⟩
theorem StP.below (h : StP w wx hb rb kb ob c last L ks ts a) (hb' : Below wx.heap.size wx wy) : StP w wy hb rb kb ob c last L ks ts a :=
  ⟨h.heap.below hb', h.ref.below hb', h.book.keep hb', h.low.trans (hb'.mono h.low.size), h.op.below' hb'⟩
/-- What stands between the two calls of a step. -/
structure MidP (w wx : World) (hb rb kb ob c : Nat) (last' last : Int) (L' L : List (HeapP.It Int)) (ks : List (Option Nat × Nat)) (ts : List Value) (a : OpH) : Prop where
  heap : HeapAtI wx hb w.heap.size c last' L'
  ref : RefAt wx rb w.heap.size last L
  book : BookAt wx kb w.heap.size ks ts
  low : Below w.heap.size w wx
  op : Sits wx ob 52 (opC a)
theorem MidP.cells (h : MidP w wx hb rb kb ob c last' last L' L ks ts a) : wx.cell? ⟨ob, 0, none⟩ = some (.int .i64 a.kind) ∧ wx.cell? ⟨ob, 1, none⟩ = some (.int .i64 a.n) ∧ wx.cell? ⟨ob, 2, none⟩ = some (.int .i64 a.v) := ⟨h.op.cell 0, h.op.cell 1, h.op.cell 2⟩
theorem StP.mid (h : StP w wx hb rb kb ob c last L ks ts a) : MidP w wx hb rb kb ob c last last L L ks ts a := ⟨h.heap, h.ref, h.book, h.low, h.op⟩
theorem turn_type (h : HeapAtI wx hb w.heap.size c last L) {k : Nat} {t : TypeId} {cs : Array Value} (hk : k = hb ∨ BlkI wx k) (hs : Sits wx k t cs) : t = 32 ∨ t = 75 ∨ t = 71 := by
  rcases hk with rfl | ⟨cs', h'⟩ | ⟨cs', h'⟩ | ⟨es, ck, h'⟩
  · rcases h.at_ with ⟨_, _, e⟩ | ⟨p, e, _⟩
    · exact .inl (sits_type hs e)
    · exact .inl (sits_type hs e)
  · exact .inr (.inl (sits_type hs h'))
  · exact .inr (.inr (sits_type hs h'))
  · exact absurd (h'.symm.trans hs) (by simp)
/-- A call on the heap. -/
theorem StP.step (h : StP w wx hb rb kb ob c last L ks ts a) (hh : HeapAtI wy hb w.heap.size c' last' L') (ht : TurnI hb wx wy) (hl : Below w.heap.size wx wy) : MidP w wy hb rb kb ob c' last' last L' L ks ts a := by
  have hty : ∀ {k : Nat} {t : TypeId} {cs : Array Value}, (k = hb ∨ BlkI wx k) → Sits wx k t cs → t = 32 ∨ t = 75 ∨ t = 71 := fun hk hs => turn_type h.heap hk hs
  refine ⟨hh, h.ref.many ht fun k t cs hk hs => ?_, h.book.many ht fun k t cs hk hs => ?_, h.low.trans hl, h.op.many ht fun hk => ?_⟩
  · rcases hty hk hs with rfl | rfl | rfl <;> exact ⟨by decide, by decide⟩
  · rcases hty hk hs with rfl | rfl | rfl <;> exact ⟨by decide, by decide, by decide⟩
  · rcases hty hk h.op with e | e | e <;> exact absurd e (by decide)
/-- A call on the document's own heap. -/
theorem MidP.step (h : MidP w wx hb rb kb ob c last' last L' L ks ts a) (hr : RefAt wy rb w.heap.size last' L') (ho : Only rb wx wy) (hl : Below w.heap.size wx wy) : StP w wy hb rb kb ob c last' L' ks ts a := by
  obtain ⟨v, hs, -⟩ := h.ref.rows
  have hm : Many (fun k => k = rb) wx wy := ⟨ho.os, ho.tape, ho.output, ho.size, fun k hk hS => ho.block k hk hS⟩
  refine ⟨h.heap.many hm fun k hk => ⟨_, _, hk ▸ hs, by decide, by decide, by decide⟩, hr, h.book.many hm fun k t cs hk hs' => ?_, h.low.trans hl, h.op.many hm fun hk => ?_⟩
  · have hs2 : Sits wx rb t cs := hk ▸ hs'
    have e := sits_type hs2 hs
    subst e
    exact ⟨by decide, by decide, by decide⟩
  · have hs2 : Sits wx rb 52 (opC a) := hk ▸ h.op
    exact absurd (sits_type hs2 hs) (by decide)
theorem MidP.stay (h : MidP w wx hb rb kb ob c last last L L ks ts a) : StP w wx hb rb kb ob c last L ks ts a := ⟨h.heap, h.ref, h.book, h.low, h.op⟩
/-- One more list is kept. -/
theorem StP.booked {x : Option Nat × Nat} {u : Value} (h : StP w wx hb rb kb ob c last L ks ts a) (hk : BookAt wy kb w.heap.size (ks ++ [x]) (ts ++ [u])) (hm : Many (BlkB wx) wx wy) (hl : Below w.heap.size wx wy) : StP w wy hb rb kb ob c last L (ks ++ [x]) (ts ++ [u]) a := by
  refine ⟨h.heap.many hm fun k hk => ?_, h.ref.many hm fun k t cs hk hs => ?_, hk, h.low.trans hl, h.op.many hm fun hk => ?_⟩
  · rcases hk with ⟨cs, h'⟩ | ⟨cs, h'⟩
    · exact ⟨_, cs, h', by decide, by decide, by decide⟩
    · exact ⟨_, cs, h', by decide, by decide, by decide⟩
  · rcases hk with ⟨cs', h'⟩ | ⟨cs', h'⟩ <;> (have e := sits_type hs h'; subst e; exact ⟨by decide, by decide⟩)
  · rcases hk with ⟨cs', h'⟩ | ⟨cs', h'⟩ <;> exact absurd (sits_type h.op h') (by decide)
end
end Go.Proofs.YtfjpoadmbdjmnaaGreat
