/- Package net: the map of cut ends, and what stands in memory of a net. -/
import Derived.Test.YtkfbljbhdjnggaaNetX
import Derived.Test.YtkfbljbhdjnggaaRingFK
import Derived.Test.YtkfbljbhdjnggaaFlatV
import Derived.Maps.OwnSet
import Derived.DeepKeys4
namespace Go.Proofs.Ytkfbljbhdjnggaa
open Go Go.RowKit Go.Maps NetP
set_option maxRecDepth 100000
set_option maxHeartbeats 1000000
set_option linter.unusedSimpArgs false

theorem ends_row : (69 : TypeId) < Try.prog.types.size := of_decide_eq_true (by kernel_rfl)
theorem keyed_ends : Keyed Try.prog 69 := Keyed.of_law (deep_law_laid laidOut (m := 2) (by omega) ends_row (by kernel_rfl) (by rw [Try.underlying69]))
def kE (x : Int × Int) : Value := .agg #[.int .i64 x.1, .int .i64 x.2]
def kL (x : Int × Int) : Lit := .string (keyBytes [.int .i64 x.1, .int .i64 x.2])
def InR (x : Int × Int) : Prop := (Lit.int .i64 x.1).wf = true ∧ (Lit.int .i64 x.2).wf = true
theorem InR.ends {a b : Int} (h : InR (a, b)) : InR (endsP a b) := by
  obtain ⟨h1, h2⟩ := h
  unfold endsP
  constructor <;> simp only
  · rcases Int.le_total a b with h | h
    · rw [Int.min_eq_left h]; exact h1
    · rw [Int.min_eq_right h]; exact h2
  · rcases Int.le_total a b with h | h
    · rw [Int.max_eq_right h]; exact h2
    · rw [Int.max_eq_left h]; exact h1
theorem keyLits_int (d : Nat) (a : Int) (h : (Lit.int .i64 a).wf = true) : Try.prog.keyLits (d + 1) 3 [.int .i64 a] = some [.int .i64 a] := by
  unfold Program.keyLits
  simp [Try.underlying3, h]
theorem keyOf_ends {x : Int × Int} (h : InR x) : keyOf Try.prog 69 (kE x) = some (kL x) := by
  obtain ⟨m, hm⟩ : ∃ m, Try.prog.types.size = m + 1 := ⟨_, rfl⟩
  have hk : Try.prog.keyType 69 = true := by kernel_rfl
  have hc : Try.prog.cellsOf 69 = 2 := by kernel_rfl
  have hc1 : Try.prog.cellsOf 3 = 1 := by kernel_rfl
  unfold keyOf
  simp only [Try.underlying69, hk]
  rw [if_pos (by simp [Value.formed, Try.underlying69, hc, kE]), hm]
  unfold Program.keyLits
  simp only [Try.underlying69, kE, Value.cells]
  rw [if_pos (by simp [hc])]
  simp [hc1, keyLits_int m _ h.1, keyLits_int m _ h.2, kL]
theorem kL_inj {x y : Int × Int} (hx : InR x) (hy : InR y) (h : kL x = kL y) : x = y := by
  have := keyed_ends.inj (keyOf_ends hx) (h ▸ keyOf_ends hy)
  unfold kE at this
  obtain ⟨a, b⟩ := x
  obtain ⟨c, d⟩ := y
  simpa using this
/-- At m lies the map whose keys are C; at most n of them. -/
def MapE (w : World) (m n : Nat) (C : List (Int × Int)) : Prop := ∃ D : DataW Unit, w.ownsMap Try.prog 69 unitElem m n D ∧ ∀ x, InR x → Maps.has D (kL x) = decide (x ∈ C)
section
variable {w w' : World} {m n : Nat} {C : List (Int × Int)}
theorem MapE.keep (h : MapE w m n C) (hb : w'.heap[m]? = w.heap[m]?) : MapE w' m n C := by
  obtain ⟨D, ⟨es, clock, h1, h2⟩, h3⟩ := h
  exact ⟨D, ⟨es, clock, hb.trans h1, h2⟩, h3⟩
theorem MapE.lt (h : MapE w m n C) : m < w.heap.size := by
  obtain ⟨D, h, _⟩ := h
  exact h.lt
theorem MapE.below (h : MapE w m n C) (hb : Below w.heap.size w w') : MapE w' m n C := h.keep (hb.block m h.lt)
theorem MapE.new_ (w : World) : MapE (w.alloc (.map #[] 0)) w.heap.size 0 [] := ⟨.map [], World.ownsMap_made w _ _ _, fun x _ => by simp [Maps.has]⟩
theorem MapE.look (h : MapE w m n C) (x : Int × Int) (hx : InR x) : (Instr.lookup 32 (.map (some m)) (.agg #[.int .i64 x.1, .int .i64 x.2]) true).run Try.prog w = .ok (.tuple #[.agg #[], .bool (decide (x ∈ C))]) w := by
  obtain ⟨D, h1, h2⟩ := h
  obtain ⟨v, ps, h3, h4⟩ := h1.look_ok keyed_ends Try.underlying32 (z := .agg #[]) (by kernel_rfl) unitElem_mk (keyOf_ends hx)
  obtain ⟨rfl, -⟩ := unitElem_inv h4
  rw [h2 x hx] at h3
  exact h3
theorem MapE.put (h : MapE w m n C) (x : Int × Int) (hx : InR x) (hn : n ≤ 1000000) {C' : List (Int × Int)} (hC : ∀ y, y ∈ C' ↔ y ∈ C ∨ y = x) :
    ∃ w', (Instr.mapUpdate 32 (.map (some m)) (.agg #[.int .i64 x.1, .int .i64 x.2]) (.agg #[])).run Try.prog w = .ok () w' ∧ MapE w' m (n + 1) C' ∧ w.mapTurned w' m := by
  have hmx : maxLen = 9223372036854775807 := by decide
  obtain ⟨D, h1, h2⟩ := h
  obtain ⟨w', h3, h4, h5⟩ := h1.store keyed_ends Try.underlying32 (by omega) (val := .agg #[]) (keyOf_ends hx) unitElem_mk
  refine ⟨w', h3, ⟨_, h4, fun y hy => ?_⟩, h5⟩
  by_cases e : y = x
  · subst e
    rw [has_put_same h1.isMap (by trivial), decide_eq_true ((hC y).2 (.inr rfl))]
  · rw [has_put_other (fun he => e (kL_inj hy hx he)), h2 y hy]
    exact decide_eq_decide.2 ⟨fun h => (hC y).2 (.inl h), fun h => ((hC y).1 h).resolve_right e⟩
theorem MapE.del (h : MapE w m n C) (x : Int × Int) (hx : InR x) {C' : List (Int × Int)} (hC : ∀ y, y ∈ C' ↔ y ∈ C ∧ y ≠ x) (ty : TypeId) :
    ∃ w', (Builtin.delete_ #[32, 69] ty #[.map (some m), .agg #[.int .i64 x.1, .int .i64 x.2]]).run Try.prog w = .ok (.tuple #[]) w' ∧ MapE w' m n C' ∧ w.mapTurned w' m := by
  obtain ⟨D, h1, h2⟩ := h
  obtain ⟨w', h3, h4, h5⟩ := h1.drop keyed_ends Try.underlying32 (keyOf_ends hx) ty
  refine ⟨w', h3, ⟨_, h4, fun y hy => ?_⟩, h5⟩
  by_cases e : y = x
  · subst e
    rw [has_del_same, decide_eq_false (fun h => ((hC y).1 h).2 rfl)]
  · rw [has_del_other (fun he => e (kL_inj hy hx he)), h2 y hy]
    exact decide_eq_decide.2 ⟨fun h => (hC y).2 ⟨h, e⟩, fun h => ((hC y).1 h).1⟩
end
theorem Many.turned {S : Nat → Prop} {a w w' : World} {m : Nat} (h : Many S a w) (ht : w.mapTurned w' m) (hm : S m) : Many S a w' := h.grown ht.grown fun b hb => by cases hb; exact hm
/-- At g stands a net: its packets, its cuts (at most c of them); all of it in S. -/
def NN (g c : Nat) (L : List Pk) (C : List (Int × Int)) (S : Nat → Prop) (w : World) : Prop :=
  ∃ p q m n, Sits w g 34 #[.pointer (some ⟨p, 0, none⟩), .map (some m)] ∧ RingK w p q 900 L ∧ MapE w m n C ∧ n ≤ c ∧ S g ∧ S p ∧ S q ∧ S m
theorem holdNN (g c : Nat) (L : List Pk) (C : List (Int × Int)) : Hold (NN g c L C) where
  keep := fun ⟨p, q, m, n, h1, h2, h3, h4, h5, h6, h7, h8⟩ hk => ⟨p, q, m, n, (hk g h5 h1.lt).trans h1, h2.keep (fun b t cs hb hs => (hk b (by rcases hb with rfl | rfl <;> assumption) hs.lt).trans hs), h3.keep (hk m h8 h3.lt), h4, h5, h6, h7, h8⟩
  mono := fun ⟨p, q, m, n, h1, h2, h3, h4, h5, h6, h7, h8⟩ hs => ⟨p, q, m, n, h1, h2, h3, h4, hs _ h5, hs _ h6, hs _ h7, hs _ h8⟩
  less := fun ⟨p, q, m, n, h1, h2, h3, h4, h5, h6, h7, h8⟩ => ⟨p, q, m, n, h1, h2, h3, h4, ⟨h5, h1.lt⟩, ⟨h6, h2.lt.1⟩, ⟨h7, h2.lt.2⟩, ⟨h8, h3.lt⟩⟩
/-- At g stands a zero net. -/
def ZN (g : Nat) (S : Nat → Prop) (w : World) : Prop := Sits w g 34 #[.pointer none, .map none] ∧ S g
theorem holdZN (g : Nat) : Hold (ZN g) where
  keep := fun ⟨h1, h2⟩ hk => ⟨(hk g h2 h1.lt).trans h1, h2⟩
  mono := fun ⟨h1, h2⟩ hs => ⟨h1, hs _ h2⟩
  less := fun ⟨h1, h2⟩ => ⟨h1, h2, h1.lt⟩
/-- Which blocks a net has: they bear what they bear; a set in which it stands may be made less. -/
theorem NN.below {g c : Nat} {L : List Pk} {C : List (Int × Int)} {S : Nat → Prop} {w w' : World} (h : NN g c L C S w) (hb : Below w.heap.size w w') : NN g c L C S w' := (holdNN g c L C).keep h fun k _ hk => hb.block k hk
theorem NN.len {g c : Nat} {L : List Pk} {C : List (Int × Int)} {S : Nat → Prop} {w : World} (h : NN g c L C S w) : L.length ≤ 900 := by
  obtain ⟨p, q, m, n, h1, h2, _⟩ := h
  exact h2.head.2.1
theorem between_any (a b : Int) (w : World) :
    Calls Try.prog 40 #[.int .i64 a, .int .i64 b] w fun e w' => e = .returned (.agg #[.int .i64 (endsP a b).1, .int .i64 (endsP a b).2]) ∧ Below w.heap.size w w' := by
  unfold endsP
  simp only
  obtain ⟨p, hp⟩ : ∃ p, p = min a b := ⟨_, rfl⟩
  obtain ⟨q, hq⟩ : ∃ q, q = max a b := ⟨_, rfl⟩
  rw [← hp, ← hq]
  have HP := Lib.hid hp.symm
  have HQ := Lib.hid hq.symm
  have hs := Sits.fresh w 69 #[.int .i64 p, .int .i64 q]
  have x0 := hs.cell 0
  have x1 := hs.cell 1
  have HX := Lib.hid (And.intro x0 x1)
  have HF : Hid (Below w.heap.size w (w.alloc (.cells #[.int .i64 p, .int .i64 q] 69))) := Lib.hid ((Below.refl _ w).alloc (Nat.le_refl _) _)
  clear hp hq hs x0 x1
  go_enter Try.func40, Try.ntmps40
  go_wp2_with (first | ((with_reducible refine at_list ?_); refine wpList_min_eq rfl (.tmp 5) (.tmp 6) _ rfl _ _ _ _ _ rfl rfl HP.out ?_) | ((with_reducible refine at_list ?_); refine wpList_max_eq rfl (.tmp 8) (.tmp 9) _ rfl _ _ _ _ _ rfl rfl HQ.out ?_))
  refine bodyPost_ret (v := .agg #[.int .i64 p, .int .i64 q]) ?_ rfl ⟨rfl, HF.out⟩
  simp [results, Try.results40, go_sem, HX.out]
end Go.Proofs.Ytkfbljbhdjnggaa
