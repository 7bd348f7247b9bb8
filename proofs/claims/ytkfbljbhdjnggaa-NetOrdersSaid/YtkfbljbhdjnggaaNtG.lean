/- A list of ints beside something else, of one's own: one more is appended; one is taken out of its midst. -/
import Derived.Test.YtkfbljbhdjnggaaNtF
import Derived.Test.YtkfbljbhdjnggaaIntRow
namespace Go.Proofs.Ytkfbljbhdjnggaa
open Go Go.RowKit Go.Maps NetP
set_option maxRecDepth 100000
set_option maxHeartbeats 1000000
set_option linter.unusedSimpArgs false

/-- A list of ints in blocks of S. -/
def RwI (v : Value) (l : List Int) (S : Nat → Prop) (w : World) : Prop := IRow w 0 v l ∧ ∀ b, v.ownBlock = some b → S b
theorem holdRwI (v : Value) (l : List Int) : Hold (RwI v l) where
  keep := fun ⟨h1, h2⟩ hk => ⟨h1.keep fun b hb => hk b (h2 b hb) (h1.lt b hb).2, h2⟩
  mono := fun ⟨h1, h2⟩ hs => ⟨h1, fun b hb => hs b (h2 b hb)⟩
  less := fun ⟨h1, h2⟩ => ⟨h1, fun b hb => ⟨h2 b hb, (h1.lt b hb).2⟩⟩
/-- A call, or what is like one, that leaves A's blocks: what stands beside turns to something in its own blocks and new ones. -/
theorem Has.beside {A B B' : (Nat → Prop) → World → Prop} {w0 w w' : World} (hA : Hold A) (hB : Hold B) (_ : Hold B') (h : Has (Both A B) w0 w)
    (hf : ∀ S, (∀ k, S k → k < w.heap.size) → B S w → ∃ T : Nat → Prop, (∀ k, T k → S k ∨ w.heap.size ≤ k) ∧ B' T w' ∧ Many S w w') : Has (Both A B') w0 w' := by
  obtain ⟨S1, S2, h1, h2, h3, h4⟩ := h.here
  obtain ⟨T, ht, hb, hm⟩ := hf _ (fun k hk => hk.2) (hB.less h2)
  refine ⟨⟨fun k => S1 k ∧ k < w.heap.size, T, hA.keep (hA.less h1) fun k hk hl => hm.block k hl fun e => h3 k hk.1 e.1, hb, fun k a b => (ht k b).elim (fun e => h3 k a.1 e.1) fun e => by have := a.2; omega, ?_⟩, h.below.trans (hm.below (fun k hk => h4 k (.inr hk.1)) h.below.size)⟩
  rintro k (hk | hk)
  · exact h4 k (.inl hk.1)
  · exact (ht k hk).elim (fun e => h4 k (.inr e.1)) fun e => Nat.le_trans h.below.size e
theorem has_pushI {A : (Nat → Prop) → World → Prop} (hA : Hold A) {w0 w : World} {v : Value} {l : List Int} (h : Has (Both A (RwI v l)) w0 w) (x : Int) (hl : l.length ≤ 1000000) (ty : TypeId) :
    ∃ v' W', (Builtin.append_ #[57, 57] ty #[v, .slice (some ⟨w.heap.size, 0, none⟩) 1 1]).run Try.prog (w.alloc (.cells #[(Value.int .i64 x)] 3)) = .ok v' W' ∧ Has (Both A (RwI v' (l ++ [x]))) w0 W' := by
  have hmx : maxLen = 9223372036854775807 := by decide
  obtain ⟨S1, S2, h1, h2, h3, h4⟩ := h.here
  have hal : Below w.heap.size w (w.alloc (.cells #[(Value.int .i64 x)] 3)) := (Below.refl _ w).alloc (Nat.le_refl _) _
  have hrow := h2.1.below hal
  have hsrc : Src Try.prog 1 57 (.slice (some ⟨w.heap.size, 0, none⟩) 1 1) 1 [(Value.int .i64 x)] (w.alloc (.cells #[(Value.int .i64 x)] 3)) := src_slice Try.underlying57 rfl (fun _ => ⟨w.heap.size, 0, rfl, fun j u hu => by
    rw [Nat.zero_add, (Sits.fresh w 3 #[(Value.int .i64 x)]).cell j]
    simpa using hu⟩) (by simp [Value.oneCell'])
  obtain ⟨v', W', hr, row, gr, at3⟩ := appendAt_src elem_int hrow hsrc ty (by omega) (by omega) (Nat.zero_le _)
  refine ⟨v', W', hr, h.beside hA (holdRwI v l) (holdRwI v' (l ++ [x])) fun S hS hb => ?_⟩
  refine ⟨fun k => S k ∨ w.heap.size ≤ k, fun k hk => hk, ⟨?_, fun b hb' => ?_⟩, ((Many.refl S w).then hal).grown gr hb.2⟩
  · show RowAt W' 0 3 1 v' (l ++ [x]).length (vals (l ++ [x]))
    rw [show (l ++ [x]).length = l.length + 1 by simp, vals_append]
    exact row
  · rcases at3 with e | e
    · exact .inl (hb.2 b (e ▸ hb'))
    · rw [hb'] at e
      injection e with e
      rw [World.size_alloc] at e
      exact .inr (by omega)
theorem ri_info : ∃ i, Try.prog.info? (Try.prog.elem 57) = some i := by
  rw [show Try.prog.elem 57 = 3 by kernel_rfl]
  exact info_of_underlying Try.underlying3
theorem ri_under : Try.prog.underlying 57 = some (.slice (Try.prog.elem 57)) := by kernel_rfl
theorem ri_size : Try.prog.cellsOf (Try.prog.elem 57) = 1 := by kernel_rfl
theorem flat_ints (l : List Int) : (l.flatMap fun x => [Value.int .i64 x]) = vals l := by
  induction l with
  | nil => rfl
  | cons a l ih => rw [List.flatMap_cons, ih]; rfl
/-- A copy of what is ahead of k, and behind it what is behind k. -/
theorem ri_cut {W : World} {A : Option Addr} {cap : Nat} {L : List Int} (hI : Ints W (.slice A L.length cap) L) (k : Nat) (hk : k < L.length) (hn : L.length ≤ 100000) (ty : TypeId) :
    ∃ A1 c1 A2 c2 v1 w1 v2 w2, (∀ W', (Instr.slice 57 (.slice A L.length cap) none (some (.int .i64 (k : Int))) none).run Try.prog W' = .ok (.slice A1 k c1) W') ∧
      (∀ W', (Instr.slice 57 (.slice A L.length cap) (some (.int .i64 ((k : Int) + 1))) none none).run Try.prog W' = .ok (.slice A2 (L.length - (k + 1)) c2) W') ∧
      (Builtin.append_ #[57, 57] ty #[.slice none 0 0, .slice A1 k c1]).run Try.prog W.drew = .ok v1 w1 ∧
      (Builtin.append_ #[57, 57] ty #[v1, .slice A2 (L.length - (k + 1)) c2]).run Try.prog w1 = .ok v2 w2 ∧
      IRow w2 W.heap.size v2 (L.eraseIdx k) ∧ Below W.heap.size W w2 ∧ Below W.heap.size W w1 := by
  have hmx : maxLen = 9223372036854775807 := by decide
  obtain ⟨i, hi⟩ := ri_info
  obtain ⟨A1, c1, g1, s1⟩ := SliceAt.high ri_under hi ri_size hI k (by omega)
  obtain ⟨A2, c2, g2, s2⟩ := SliceAt.low ri_under hi ri_size hI (k + 1) (by omega)
  have hb0 : Below W.heap.size W W.drew := (Below.refl _ W).drew
  have hl1 : (L.take k).length = k := by rw [List.length_take]; omega
  have hl2 : (L.drop (k + 1)).length = L.length - (k + 1) := List.length_drop
  have hone : ∀ x : Int, ∀ u ∈ [Value.int .i64 x], u.oneCell' = true := fun x u hu => by
    obtain rfl := List.mem_singleton.1 hu
    rfl
  have src1 := SliceAt.src (s := 1) (f := fun x => [Value.int .i64 x]) (e := 3) Try.underlying57 (fun _ => rfl) (by omega) hone (SliceAt.below s1 hb0)
  obtain ⟨v1, w1, hr1, own1, gr1, -⟩ := append_src (w := W.drew) (tx := 57) elem_int (World.ownsRow_nil W.drew W.drew.heap.size 3 1) src1 ty (by omega) (by omega) (Nat.le_refl _)
  rw [Nat.zero_add, List.nil_append] at own1
  have hb1 : Below W.heap.size W w1 := hb0.trans (((Below.refl _ _).grown gr1 (Nat.le_refl _) (by simp [Value.ownBlock])).mono hb0.size)
  have src2 := SliceAt.src (s := 1) (f := fun x => [Value.int .i64 x]) (e := 3) Try.underlying57 (fun _ => rfl) (by omega) hone (SliceAt.below s2 hb1)
  have row1 := (RowAt.ofOwn own1).mono hb0.size
  obtain ⟨v2, w2, hr2, row2, gr2, -⟩ := appendAt_src elem_int row1 src2 ty (by omega) (by omega) hb1.size
  rw [hl1, hl2] at row2
  have he : L.eraseIdx k = L.take k ++ L.drop (k + 1) := List.eraseIdx_eq_take_drop_succ _ _
  refine ⟨A1, c1, A2, c2, v1, w1, v2, w2, g1, fun W' => ?_, hr1, hr2, ?_, hb1.trans ((Below.refl W.heap.size w1).grown gr2 hb1.size (fun q hq => (row1.lt q hq).1)), hb1⟩
  · have := g2 W'
    rwa [show ((k + 1 : Nat) : Int) = (k : Int) + 1 by omega] at this
  · rw [he]
    show RowAt w2 W.heap.size 3 1 v2 (L.take k ++ L.drop (k + 1)).length (vals (L.take k ++ L.drop (k + 1)))
    rw [List.length_append, hl1, hl2, vals_append]
    rw [flat_ints, flat_ints] at row2
    exact row2
theorem RowAt.put1 {w : World} {base : Nat} {e : TypeId} {size g o n cap : Nat} {xs : List Value} (h : RowAt w base e size (.slice (some ⟨g, o, none⟩) n cap) n xs) (q : Nat) (_hq : q < n * size) (u : Value) :
    RowAt (w.setCell ⟨g, o + q, none⟩ u) base e size (.slice (some ⟨g, o, none⟩) n cap) n (xs.set q u) := by
  refine ⟨by rw [List.length_set]; exact h.1, ?_⟩
  rcases h.2 with ⟨h1, _⟩ | ⟨g', o', cap', cur, e1, hb, hg, h1, h2, h3, h4⟩
  · cases h1
  · simp only [Value.slice.injEq, Option.some.injEq, Addr.mk.injEq, and_true] at e1
    obtain ⟨⟨rfl, rfl⟩, _, rfl⟩ := e1
    refine .inr ⟨g, o, cap, _, rfl, hb, Sits.put hg (o + q) u, h1, h2, by rw [Array.size_setIfInBounds]; exact h3, ?_⟩
    rw [Array.toList_setIfInBounds, List.drop_set, if_neg (by omega), List.take_set, h4, Nat.add_sub_cancel_left]
/-- A list's first ones. -/
theorem vals_set (l : List Int) (q : Nat) (x : Int) : vals (l.set q x) = (vals l).set q (.int .i64 x) := by simp [vals, List.map_set]
theorem IRow.put {w : World} {base g o n cap : Nat} {l : List Int} (hl : l.length = n) (h : IRow w base (.slice (some ⟨g, o, none⟩) n cap) l) (q : Nat) (hq : q < n) (x : Int) : IRow (w.setCell ⟨g, o + q, none⟩ (.int .i64 x)) base (.slice (some ⟨g, o, none⟩) n cap) (l.set q x) := by
  show RowAt _ base 3 1 _ (l.set q x).length (vals (l.set q x))
  unfold IRow at h
  rw [hl] at h
  rw [List.length_set, hl, vals_set]
  exact h.put1 q (by omega) _
end Go.Proofs.Ytkfbljbhdjnggaa
