/- Package heap: a pile of int items in memory; its order. -/
import Derived.Test.YtfjpoadmbdjmnaaGreatHeapP
import Derived.Test.YtfjpoadmbdjmnaaGreatMany
import Derived.Test.YtfjpoadmbdjmnaaGreatCmp
import Derived.Test.YtfjpoadmbdjmnaaGreatFlat
import Derived.Test.YtfjpoadmbdjmnaaGreatRow
import Derived.Test.YtfjpoadmbdjmnaaGreatAppend
import Derived.Maps.OwnSet
import Derived.Sort.Grow
import Derived.BigQuiet
import Derived.BigRegion
import Derived.StillTailTactics
namespace Go.Proofs.YtfjpoadmbdjmnaaGreat
open Go Go.RowKit Go.Maps HeapP
set_option maxRecDepth 100000
set_option maxHeartbeats 1000000
set_option linter.unusedSimpArgs false

def encI (x : HeapP.It Int) : List Value := [.int .i64 x.t, .int .i64 x.id, (Value.int .i64 (x.v))]
def aggI (x : HeapP.It Int) : Value := .agg #[.int .i64 x.t, .int .i64 x.id, (Value.int .i64 (x.v))]
theorem encI_len (x : HeapP.It Int) : (encI x).length = 3 := rfl

/-- At p lies a pile: its items l in the block g, their places in the map m, which holds D. -/
structure PileI (w : World) (p g m cap : Nat) (l : List (HeapP.It Int)) (D : DataW Unit) (n : Nat) (last : Int) : Prop where
  sits : Sits w p 75 #[.int .i64 last, .slice (some ⟨g, 0, none⟩) l.length cap, .map (some m)]
  row : ∃ cur : Array Value, Sits w g 71 cur ∧ cur.size = cap * 3 ∧ ∀ i, i < l.length → ∀ j u, (encI (gt l i))[j]? = some u → cur[i * 3 + j]? = some u
  len : l.length ≤ cap
  cap : cap ≤ maxLen
  map : w.ownsMap Tryz.prog 3 (plainElem Tryz.prog 3) m n D
def Tri (p g m k : Nat) : Prop := k = p ∨ k = g ∨ k = m

section
variable {w w' : World} {p g m cap n : Nat} {l : List (HeapP.It Int)} {D : DataW Unit} {last : Int}
theorem PileI.ne (h : PileI w p g m cap l D n last) : g ≠ p ∧ m ≠ p ∧ m ≠ g := by
  obtain ⟨cur, hc, _⟩ := h.row
  obtain ⟨es, ck, hm, _⟩ := h.map
  refine ⟨hc.apart h.sits (by decide), fun e => ?_, fun e => ?_⟩
  · subst e; have := hm.symm.trans h.sits; simp at this
  · subst e; have := hm.symm.trans hc; simp at this
theorem PileI.lt (h : PileI w p g m cap l D n last) : p < w.heap.size ∧ g < w.heap.size ∧ m < w.heap.size := by
  obtain ⟨cur, hc, _⟩ := h.row
  exact ⟨h.sits.lt, hc.lt, h.map.lt⟩
theorem PileI.keep (h : PileI w p g m cap l D n last) (hk : ∀ b, Tri p g m b → w'.heap[b]? = w.heap[b]?) : PileI w' p g m cap l D n last := by
  obtain ⟨cur, hc, h1, h2⟩ := h.row
  obtain ⟨es, ck, hm, h3⟩ := h.map
  exact ⟨(hk p (.inl rfl)).trans h.sits, ⟨cur, (hk g (.inr (.inl rfl))).trans hc, h1, h2⟩, h.len, h.cap, ⟨es, ck, (hk m (.inr (.inr rfl))).trans hm, h3⟩⟩
theorem PileI.below (h : PileI w p g m cap l D n last) (hb : Below w.heap.size w w') : PileI w' p g m cap l D n last :=
  h.keep fun b hB => hb.block b (by obtain ⟨h1, h2, h3⟩ := h.lt; rcases hB with rfl | rfl | rfl <;> assumption)
theorem PileI.drewN (h : PileI w p g m cap l D n last) (k : Nat) : PileI (w.drewN k) p g m cap l D n last := h.keep fun _ _ => rfl
theorem PileI.many {S : Nat → Prop} (h : PileI w p g m cap l D n last) (hb : Many S w w') (hS : ∀ b, Tri p g m b → ¬ S b) : PileI w' p g m cap l D n last :=
  h.keep fun b hB => hb.block b (by obtain ⟨h1, h2, h3⟩ := h.lt; rcases hB with rfl | rfl | rfl <;> assumption) (hS b hB)
theorem PileI.mono (h : PileI w p g m cap l D n last) {n' : Nat} (hn : n ≤ n') : PileI w p g m cap l D n' last := ⟨h.sits, h.row, h.len, h.cap, h.map.mono hn⟩
theorem PileI.at (h : PileI w p g m cap l D n last) {i : Nat} (hi : i < l.length) {j : Nat} {u : Value} (hu : (encI (gt l i))[j]? = some u) : w.cell? ⟨g, i * 3 + j, none⟩ = some u := by
  obtain ⟨cur, hc, _, h2⟩ := h.row
  rw [hc.cell]
  exact h2 i hi j u hu
end

theorem below_grow (w : World) (n : Nat) (os : Array Obj) : Below w.heap.size w (Sort.grow (w.drewN n) os) :=
  ⟨rfl, rfl, rfl, by simp [Sort.grow], fun k hk => by simp only [Sort.grow]; rw [Array.getElem?_append_left (by exact hk)]; rfl⟩
theorem grow_alloc (w : World) (n : Nat) (os : Array Obj) (o : Obj) : (Sort.grow (w.drewN n) os).alloc o = Sort.grow (w.drewN n) (os.push o) := by
  rw [Sort.alloc_eq_grow, Sort.grow_grow, Array.append_singleton]
theorem grow_drewN (w : World) (n k : Nat) (os : Array Obj) : (Sort.grow (w.drewN n) os).drewN k = Sort.grow (w.drewN (n + k)) os := by
  simp [Sort.grow, World.drewN, Nat.add_assoc]

theorem same_below {w w' : World} (h : w = w') : Below w.heap.size w w' := h ▸ Below.refl _ _
/-- compare: it lays blocks of its own, and no more. -/
theorem compareI_any (x y : HeapP.It Int) (w : World) :
    Calls Tryz.prog 25 #[aggI x, aggI y] w fun e w' => e = .returned (.int .i64 (HeapP.cf x y)) ∧ ∃ q os, w' = Sort.grow (w.drewN q) os := by
  rw [cf_or]
  obtain ⟨r, hr⟩ : ∃ r, r = if cmpInt x.t y.t = 0 then cmpInt x.id y.id else cmpInt x.t y.t := ⟨_, rfl⟩
  rw [← hr]
  have HRR := Lib.hid hr
  clear hr
  unfold aggI
  go_enter Tryz.func25, Tryz.ntmps25
  go_wp2_with fail
  obtain ⟨w1, hw1⟩ : ∃ w1, w1 = (w.alloc (.cells #[.int .i64 x.t, .int .i64 x.id, (Value.int .i64 (x.v))] 71)).alloc (.cells #[.int .i64 y.t, .int .i64 y.id, (Value.int .i64 (y.v))] 71) := ⟨_, rfl⟩
  have s0 : Sits w1 w.heap.size 71 #[.int .i64 x.t, .int .i64 x.id, (Value.int .i64 (x.v))] := hw1 ▸ (Sits.fresh w _ _).alloc _
  have s1 : Sits w1 (w.heap.size + 1) 71 #[.int .i64 y.t, .int .i64 y.id, (Value.int .i64 (y.v))] := by
    have := Sits.fresh (w.alloc (.cells #[.int .i64 x.t, .int .i64 x.id, (Value.int .i64 (x.v))] 71)) 71 #[.int .i64 y.t, .int .i64 y.id, (Value.int .i64 (y.v))]
    rw [← hw1, World.size_alloc] at this
    exact this
  rw [← hw1]
  obtain ⟨os1, hg⟩ : ∃ os1, w1 = Sort.grow w os1 := ⟨_, hw1.trans (by rw [Sort.alloc_eq_grow, Sort.alloc_eq_grow, Sort.grow_grow])⟩
  obtain ⟨b0, hb0⟩ : ∃ b0, b0 = w.heap.size := ⟨_, rfl⟩
  obtain ⟨b1, hb1⟩ : ∃ b1, b1 = w.heap.size + 1 := ⟨_, rfl⟩
  rw [← hb1] at s1
  rw [← hb0] at s0
  try simp only [World.size_alloc]
  rw [← hb1, ← hb0]
  have C0 := Lib.hid (s0.cell 0)
  have C1 := Lib.hid (s0.cell 1)
  have C2 := Lib.hid (s1.cell 0)
  have C3 := Lib.hid (s1.cell 1)
  have L0 := Lib.hid s0.lt
  have L1 := Lib.hid s1.lt
  have HG := Lib.hid hg
  clear s0 s1 hw1 hb0 hb1 hg
  refine wp_region_ex (by kernel_rfl) (fun W => ∃ q os, W = Sort.grow (w1.drewN q) os) (fun W W' => Below W.heap.size W W')
    [[(2, none)], [(5, some 0)], [(3, none)], [(7, some 2)], [(6, some 1), (8, some 3)], [(2, none)], [(10, some 5)], [(3, none)], [(12, some 7)], [(11, some 6), (13, some 8)], [(9, some 4), (14, some 9)], [(15, some 10)], [(16, some 11)]]
    [none, none, none, none, some 12, some 0, some 1, some 2, some 3, some 4, some 5, some 6, some 7, some 8, some 9, some 10, some 11] (by kernel_rfl) (by kernel_rfl) ⟨1, #[], (Sort.grow_empty _).symm⟩ ?_
  iterate 4
    refine ex_pure (c := ?_) (fun _ _ => Below.refl _ _) ?_ ?_
    rotate_left
    · intro a W hR hF
      obtain ⟨q0, os0, rfl⟩ := hR
      simp only [FactsOf, List.nil_append, List.cons_append, List.getD_cons_zero, List.getD_cons_succ, exists_eq_left, and_true, List.getElem?_toArray, List.getElem?_cons_zero, List.getElem?_cons_succ] at hF
      have k0 := ((below_grow w1 q0 os0).cell (p := ⟨b0, 0, none⟩) L0.out).trans C0.out
      have k1 := ((below_grow w1 q0 os0).cell (p := ⟨b0, 1, none⟩) L0.out).trans C1.out
      have k2 := ((below_grow w1 q0 os0).cell (p := ⟨b1, 0, none⟩) L1.out).trans C2.out
      have k3 := ((below_grow w1 q0 os0).cell (p := ⟨b1, 1, none⟩) L1.out).trans C3.out
      refine ⟨?_, ?_⟩
      · simp [Region.wanted, yielded, hF]
      · go_simp
        with_reducible rfl
  refine ex_callx (.int .i64 (cmpInt x.t y.t)) (fun a W hR hF => ?_) ?_
  · simp only [FactsOf, List.nil_append, List.cons_append, List.getD_cons_zero, List.getD_cons_succ, exists_eq_left, and_true, List.getElem?_toArray, List.getElem?_cons_zero, List.getElem?_cons_succ] at hF
    exact ⟨by simp [Region.wanted, yielded, hF], 92, #[.int .i64 x.t, .int .i64 y.t], by go_simp, (compare_int x.t y.t W).mono fun e w' ⟨he, hw⟩ => ⟨he, hw ▸ hR, same_below hw⟩⟩
  iterate 4
    refine ex_pure (c := ?_) (fun _ _ => Below.refl _ _) ?_ ?_
    rotate_left
    · intro a W hR hF
      obtain ⟨q0, os0, rfl⟩ := hR
      simp only [FactsOf, List.nil_append, List.cons_append, List.getD_cons_zero, List.getD_cons_succ, exists_eq_left, and_true, List.getElem?_toArray, List.getElem?_cons_zero, List.getElem?_cons_succ] at hF
      have k0 := ((below_grow w1 q0 os0).cell (p := ⟨b0, 0, none⟩) L0.out).trans C0.out
      have k1 := ((below_grow w1 q0 os0).cell (p := ⟨b0, 1, none⟩) L0.out).trans C1.out
      have k2 := ((below_grow w1 q0 os0).cell (p := ⟨b1, 0, none⟩) L1.out).trans C2.out
      have k3 := ((below_grow w1 q0 os0).cell (p := ⟨b1, 1, none⟩) L1.out).trans C3.out
      refine ⟨?_, ?_⟩
      · simp [Region.wanted, yielded, hF]
      · go_simp
        with_reducible rfl
  refine ex_callx (.int .i64 (cmpInt x.id y.id)) (fun a W hR hF => ?_) ?_
  · simp only [FactsOf, List.nil_append, List.cons_append, List.getD_cons_zero, List.getD_cons_succ, exists_eq_left, and_true, List.getElem?_toArray, List.getElem?_cons_zero, List.getElem?_cons_succ] at hF
    exact ⟨by simp [Region.wanted, yielded, hF], 92, #[.int .i64 x.id, .int .i64 y.id], by go_simp, (compare_int x.id y.id W).mono fun e w' ⟨he, hw⟩ => ⟨he, hw ▸ hR, same_below hw⟩⟩
  refine ex_val (fun v W => ∃ g, v = .slice (some ⟨g, 0, none⟩) 2 2 ∧ Sits W g 3 #[.int .i64 (cmpInt x.t y.t), .int .i64 (cmpInt x.id y.id)]) (fun v W W' _ hS ⟨g, e, hs⟩ => ⟨g, e, hs.below' hS⟩) (fun a W hR hF => ?_) ?_
  · simp only [FactsOf, List.nil_append, List.cons_append, List.getD_cons_zero, List.getD_cons_succ, exists_eq_left, and_true, List.getElem?_toArray, List.getElem?_cons_zero, List.getElem?_cons_succ] at hF
    obtain ⟨q0, os0, rfl⟩ := hR
    refine ⟨by simp [Region.wanted, yielded, hF], .slice (some ⟨_, 0, none⟩) 2 2, _, ?_, ⟨q0, _, grow_alloc w1 q0 os0 _⟩, (Below.refl _ _).alloc (Nat.le_refl _) _, _, rfl, Sits.fresh _ _ _⟩
    go_simp
  refine ex_callx (.int .i64 r) (fun a W hR hF => ?_) ?_
  · simp only [FactsOf, List.nil_append, List.cons_append, List.getD_cons_zero, List.getD_cons_succ, exists_eq_left, and_true, List.getElem?_toArray, List.getElem?_cons_zero, List.getElem?_cons_succ] at hF
    obtain ⟨v, ⟨g, rfl, hs⟩, hv⟩ := hF
    exact ⟨by simp [Region.wanted, yielded, hv], 91, #[.slice (some ⟨g, 0, none⟩) 2 2], by go_simp, (or_two g _ _ _ W hs).mono fun e w' ⟨he, hw⟩ => ⟨he.trans (by rw [HRR.out]), hw ▸ hR, same_below hw⟩⟩
  iterate 1
    refine ex_pure (c := ?_) (fun _ _ => Below.refl _ _) ?_ ?_
    rotate_left
    · intro a W hR hF
      obtain ⟨q0, os0, rfl⟩ := hR
      simp only [FactsOf, List.nil_append, List.cons_append, List.getD_cons_zero, List.getD_cons_succ, exists_eq_left, and_true, List.getElem?_toArray, List.getElem?_cons_zero, List.getElem?_cons_succ] at hF
      have k0 := ((below_grow w1 q0 os0).cell (p := ⟨b0, 0, none⟩) L0.out).trans C0.out
      have k1 := ((below_grow w1 q0 os0).cell (p := ⟨b0, 1, none⟩) L0.out).trans C1.out
      have k2 := ((below_grow w1 q0 os0).cell (p := ⟨b1, 0, none⟩) L1.out).trans C2.out
      have k3 := ((below_grow w1 q0 os0).cell (p := ⟨b1, 1, none⟩) L1.out).trans C3.out
      refine ⟨?_, ?_⟩
      · simp [Region.wanted, yielded, hF]
      · go_simp
        with_reducible rfl
  show ∀ W, _ → _
  intro W hR
  simp only [FinOf, List.nil_append, List.cons_append, List.getD_cons_zero, List.getD_cons_succ, forall_eq, forall_exists_index, and_imp, Nat.reduceAdd, Array.getD_eq_getD_getElem?, List.getElem?_toArray, List.getElem?_cons_zero, List.getElem?_cons_succ, Option.getD_some]
  intros
  obtain ⟨q, os, rfl⟩ := hR
  go_wp2
  go_ret
  refine ⟨rfl, q, os1 ++ os, ?_⟩
  rw [HG.out]
  simp [Sort.grow, World.drewN, Array.append_assoc]

/-- An item stands at a place. -/
theorem PileI.put {w : World} {p g m cap n : Nat} {l : List (HeapP.It Int)} {D : DataW Unit} {last : Int} (h : PileI w p g m cap l D n last) {k : Nat} (hk : k < l.length) (x : HeapP.It Int) :
    PileI (((w.setCell ⟨g, k * 3, none⟩ (.int .i64 x.t)).setCell ⟨g, k * 3 + 1, none⟩ (.int .i64 x.id)).setCell ⟨g, k * 3 + 2, none⟩ (Value.int .i64 (x.v))) p g m cap (l.set k x) D n last := by
  obtain ⟨n1, n2, n3⟩ := h.ne
  obtain ⟨cur, hc, h1, h2⟩ := h.row
  have hl := h.len
  refine ⟨?_, ⟨_, ((hc.put _ _).put _ _).put _ _, by simp [h1], fun i hi j u hu => ?_⟩, by simpa using h.len, h.cap, ((h.map.setCell n3 _).setCell n3 _).setCell n3 _⟩
  · rw [List.length_set]
    exact ((h.sits.away (p := ⟨g, _, none⟩) (Ne.symm n1) _).away (p := ⟨g, _, none⟩) (Ne.symm n1) _).away (p := ⟨g, _, none⟩) (Ne.symm n1) _
  · rw [List.length_set] at hi
    have hj : j < 3 := (List.getElem?_eq_some_iff.1 hu).1
    rw [gt_set _ _ _ _ hk] at hu
    by_cases hik : i = k
    · subst hik
      rw [if_pos rfl] at hu
      match j, hj, hu with
      | 0, _, hu => simp only [encI, List.getElem?_cons_zero, Option.some.injEq] at hu; subst hu; simp [Array.getElem?_setIfInBounds, h1]; omega
      | 1, _, hu => simp only [encI, List.getElem?_cons_zero, List.getElem?_cons_succ, Option.some.injEq] at hu; subst hu; simp [Array.getElem?_setIfInBounds, h1]; omega
      | 2, _, hu => simp only [encI, List.getElem?_cons_zero, List.getElem?_cons_succ, Option.some.injEq] at hu; subst hu; simp [Array.getElem?_setIfInBounds, h1]; omega
    · rw [if_neg hik] at hu
      rw [Array.getElem?_setIfInBounds_ne (by omega), Array.getElem?_setIfInBounds_ne (by omega), Array.getElem?_setIfInBounds_ne (by omega)]
      exact h2 i hi j u hu
theorem PileI.remap {w w' : World} {p g m cap n n' : Nat} {l : List (HeapP.It Int)} {D D' : DataW Unit} {last : Int} (h : PileI w p g m cap l D n last) (hm : w'.ownsMap Tryz.prog 3 (plainElem Tryz.prog 3) m n' D')
    (hg : w.grownBy w' (some m)) : PileI w' p g m cap l D' n' last := by
  obtain ⟨n1, n2, n3⟩ := h.ne
  obtain ⟨cur, hc, h1, h2⟩ := h.row
  exact ⟨(hg.block p h.sits.lt (by simpa using Ne.symm n2)).trans h.sits, ⟨cur, (hg.block g hc.lt (by simpa using Ne.symm n3)).trans hc, h1, h2⟩, h.len, h.cap, hm⟩
theorem keyed_int : Keyed Tryz.prog 3 := int_keyed Tryz.underlying3
theorem key_of {id : Int} (h : -9223372036854775808 ≤ id ∧ id ≤ 9223372036854775807) : keyOf Tryz.prog 3 (.int .i64 id) = some (key id) := keyOf_int_mk Tryz.underlying3 (WalkArith.wf_i64 (by omega))
theorem elem_of {j : Int} (h : -9223372036854775808 ≤ j ∧ j ≤ 9223372036854775807) : plainElem (H := Unit) Tryz.prog 3 (.int .i64 j) = some (.lit (.int .i64 j), []) := plainElem_int Tryz.underlying3 (WalkArith.wf_i64 (by omega))

/-- set: an item stands at a place, and the map says so. -/
theorem setI_any (p g m cap : Nat) (l : List (HeapP.It Int)) (D : DataW Unit) (n : Nat) (last : Int) (k : Nat) (x : HeapP.It Int) (w : World) (h : PileI w p g m cap l D n last) (hk : k < l.length) (hid : -9223372036854775808 ≤ x.id ∧ x.id ≤ 9223372036854775807) (hn : n < maxLen) :
    Calls Tryz.prog 122 #[.pointer (some ⟨p, 0, none⟩), .int .i64 k, aggI x] w fun e w' => e = .returned (.tuple #[]) ∧
      PileI w' p g m cap (l.set k x) (D.put (key x.id) (.lit (.int .i64 k))) (n + 1) last ∧ Many (Tri p g m) w w' := by
  unfold aggI
  have h1 := h.below ((Below.refl _ _).alloc (Nat.le_refl _) (.cells #[.int .i64 x.t, .int .i64 x.id, (Value.int .i64 (x.v))] 71))
  obtain ⟨n1, n2, n3⟩ := h1.ne
  have s0 : Sits (w.alloc (.cells #[.int .i64 x.t, .int .i64 x.id, (Value.int .i64 (x.v))] 71)) w.heap.size 71 #[.int .i64 x.t, .int .i64 x.id, (Value.int .i64 (x.v))] := Sits.fresh w _ _
  obtain ⟨w1, hw1⟩ : ∃ w1, w1 = w.alloc (.cells #[.int .i64 x.t, .int .i64 x.id, (Value.int .i64 (x.v))] 71) := ⟨_, rfl⟩
  obtain ⟨q, hq⟩ : ∃ q, q = w.heap.size := ⟨_, rfl⟩
  rw [← hw1] at h1 s0
  rw [← hq] at s0
  have b0 := s0.cell 0
  have b1 := s0.cell 1
  have b2 := s0.cell 2
  have c1 := h1.sits.cell 1
  have c2 := h1.sits.cell 2
  simp at b0 b1 b2 c1 c2
  obtain ⟨cur, hcur, _⟩ := h1.row
  have d0 := h1.at hk (j := 0) rfl
  have d1 := h1.at hk (j := 1) rfl
  have d2 := h1.at hk (j := 2) rfl
  have f0 := hcur.warm (k * 3)
  have f1 := hcur.warm (k * 3 + 1)
  have f2 := hcur.warm (k * 3 + 2)
  simp at d0
  have hqg : q ≠ g := by rw [hq]; have := h.lt; omega
  have HQ := Lib.hid s0
  have HQG := Lib.hid hqg
  have H1 := Lib.hid h1
  have HW := Lib.hid hw1
  clear h hcur hqg
  go_enter Tryz.func122, Tryz.ntmps122
  go_wp2_with fail
  rw [← hw1, ← hq]
  clear hw1 h1 s0 hq
  go_region
  obtain ⟨w2, hw2⟩ : ∃ w2, w2 = (((w1.setCell ⟨g, k * 3, none⟩ (.int .i64 x.t)).setCell ⟨g, k * 3 + 1, none⟩ (.int .i64 x.id)).setCell ⟨g, k * 3 + 2, none⟩ (Value.int .i64 (x.v))).drew := ⟨_, rfl⟩
  rw [← hw2]
  have h2 : PileI w2 p g m cap (l.set k x) D n last := hw2 ▸ (H1.out.put hk x).drewN 1
  have e1 : w2.cell? ⟨q, 1, none⟩ = some (.int .i64 x.id) := by
    rw [hw2]
    have := (((HQ.out.away (p := ⟨g, k * 3, none⟩) HQG.out (.int .i64 x.t)).away (p := ⟨g, k * 3 + 1, none⟩) HQG.out (.int .i64 x.id)).away (p := ⟨g, k * 3 + 2, none⟩) HQG.out (Value.int .i64 (x.v))).cell 1
    simpa using this
  have e2 : w2.cell? ⟨p, 2, none⟩ = some (.map (some m)) := by simpa using h2.sits.cell 2
  have hkl : (k : Int) ≤ 9223372036854775807 := by have h1 := h2.len; have h3 := h2.cap; have h4 : maxLen = 9223372036854775807 := by decide
                                                   simp at h1; omega
  obtain ⟨w3, hrun, hmap, hgrow⟩ := World.ownsMap.update (w := w2.drew) h2.map keyed_int Tryz.underlying73 hn (key_of hid) (elem_of (j := k) (by omega))
  clear b0 b1 b2 c1 c2 d0 d1 d2 f0 f1 f2
  have HM := Lib.hid hmap
  have HG := Lib.hid hgrow
  have H2 := Lib.hid h2
  have HW2 := Lib.hid hw2
  clear hmap hgrow h2 hw2
  go_wp2_with fail
  go_region
  go_returns
  have hp2 := H2.out
  refine ⟨rfl, (hp2.drewN 1).remap HM.out HG.out, ?_⟩
  have t1 : Many (Tri p g m) w w1 := HW.out ▸ (Many.refl _ w).alloc _
  have t2 : Many (Tri p g m) w w2 := HW2.out ▸ (((t1.store (.inr (.inl rfl)) _ _).store (.inr (.inl rfl)) _ _).store (.inr (.inl rfl)) _ _).drewN 1
  exact (t2.drewN 1).grown HG.out fun b hb => by simp at hb; exact .inr (.inr hb.symm)

/-- Of the two places below k the one that is told first; no place of l, if there is none. -/
def lowestI (l : List (HeapP.It Int)) (k : Nat) : Nat := if 2 * k + 2 < l.length ∧ HeapP.cf (gt l (2 * k + 2)) (gt l (2 * k + 1)) < 0 then 2 * k + 2 else 2 * k + 1
theorem belowI_any (p g m cap : Nat) (l : List (HeapP.It Int)) (D : DataW Unit) (n : Nat) (last : Int) (k b : Nat) (w : World) (h : PileI w p g m cap l D n last) (hk : k < l.length) (hs : l.length ≤ 1000000) (hb : b = lowestI l k) :
    Calls Tryz.prog 123 #[.pointer (some ⟨p, 0, none⟩), .int .i64 k] w fun e w' => e = .returned (.int .i64 b) ∧ ∃ q os, w' = Sort.grow (w.drewN q) os := by
  have hl := h.len
  have hc := h.cap
  have hm : maxLen = 9223372036854775807 := by decide
  obtain ⟨m2, hm2⟩ : ∃ m2, m2 = 2 * k := ⟨_, rfl⟩
  obtain ⟨r1, hr1⟩ : ∃ r1, r1 = 2 * k + 1 := ⟨_, rfl⟩
  obtain ⟨r2, hr2⟩ : ∃ r2, r2 = 2 * k + 2 := ⟨_, rfl⟩
  have c1 := h.sits.cell 1
  simp at c1
  unfold lowestI at hb
  rw [← hr1, ← hr2] at hb
  have x0 : IntKind.i64.wrap (2 * (k : Int)) = (m2 : Int) := by rw [IntWalk.i64_in _ (by omega)]; omega
  have x1 : IntKind.i64.wrap ((m2 : Int) + 1) = (r1 : Int) := by rw [IntWalk.i64_in _ (by omega)]; omega
  have x2 : IntKind.i64.wrap ((m2 : Int) + 2) = (r2 : Int) := by rw [IntWalk.i64_in _ (by omega)]; omega
  by_cases hr : r2 < l.length
  · have i0 : r1 < l.length := by omega
    have d0 := h.at hr (j := 0) rfl
    have d1 := h.at hr (j := 1) rfl
    have d2 := h.at hr (j := 2) rfl
    have e0 := h.at i0 (j := 0) rfl
    have e1 := h.at i0 (j := 1) rfl
    have e2 := h.at i0 (j := 2) rfl
    simp only [Nat.add_zero] at d0 e0
    generalize gt l r2 = u at *
    generalize gt l r1 = v at *
    have i1 : decide (r2 < l.length) = true := by simp; omega
    have i2 : decide (HeapP.cf u v < 0) = decide (b = r2) := by
      by_cases hcf : HeapP.cf u v < 0
      · rw [if_pos ⟨hr, hcf⟩] at hb; simp [hcf, hb]
      · rw [if_neg (fun e => hcf e.2)] at hb; simp [hcf, hb]; omega
    have HB : Hid (b = r2 ∨ b = r1) := Lib.hid (by split at hb <;> simp [hb])
    have HNE : Hid (r1 ≠ r2) := Lib.hid (by omega)
    clear h hl hc hm hk hs hb hr1 hr2 hm2
    go_enter Tryz.func123, Tryz.ntmps123
    go_wp2_with fail
    go_still_tail 22, (by kernel_rfl)
    change wpList _ _ _ _ _ w.drew
    obtain ⟨w2, hw2⟩ : ∃ w2, w2 = w.drew := ⟨_, rfl⟩
    rw [← hw2]
    have HW2 := Lib.hid hw2
    clear hw2
    go_wp2_with fail
    refine (compareI_any u v w2).mono ?_
    rintro e w' ⟨rfl, q, os, rfl⟩
    cases hbr : decide (b = r2)
    · rw [hbr] at i2
      have hb : b = r1 := HB.out.resolve_left (by simpa using hbr)
      subst hb
      clear hbr
      go_wp2
      go_ret
      exact ⟨rfl, 1 + q, os, by rw [HW2.out, World.drewN_drew]⟩
    · rw [hbr] at i2
      have hb : b = r2 := by simpa using hbr
      subst hb
      clear hbr
      go_wp2
      go_ret
      exact ⟨rfl, 1 + q, os, by rw [HW2.out, World.drewN_drew]⟩
  · have i1 : decide (r2 < l.length) = false := by simp; omega
    rw [if_neg (fun e => hr e.1)] at hb
    subst hb
    clear h hl hc hm hk hs hr1 hr2 hm2 hr
    go_enter Tryz.func123, Tryz.ntmps123
    go_wp2_with fail
    go_quiet (fail)
    go_wp2
    go_ret
    exact ⟨rfl, _, #[], (Sort.grow_empty _).symm⟩

end Go.Proofs.YtfjpoadmbdjmnaaGreat
