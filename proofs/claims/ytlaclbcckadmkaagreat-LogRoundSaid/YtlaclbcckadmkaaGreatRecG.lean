/- Package rec: Get: the record at the front of some bytes, whatever they are. -/
import Derived.Test.YtlaclbcckadmkaaGreatRecE
import Derived.Test.YtlaclbcckadmkaaGreatRecF
import Derived.Test.YtlaclbcckadmkaaGreatGG
namespace Go.Proofs.YtlaclbcckadmkaaGreat
open Go Go.RowKit
set_option maxRecDepth 100000
set_option maxHeartbeats 1000000
set_option linter.unusedSimpArgs false

def zcR : Array Value := #[.int .u64 0, .int .u64 0, .slice none 0 0]
/-- What Get tells: a record (its images in a row of the call's own), its sectors, an error. -/
def GotR (w : World) (F : (Rc × Nat) × Nat) (e : Ending) (w' : World) : Prop :=
  ∃ v, e = .returned (.tuple #[.agg #[.int .u64 (F.1.1.e : Int), .int .u64 (F.1.1.n : Int), v], .int .i64 (F.1.2 : Int), .int .i64 (F.2 : Int)]) ∧ RowAt w' w.heap.size 42 3 v F.1.1.l.length (F.1.1.l.flatMap encIm) ∧ Below w.heap.size w w'
theorem gotR_zero {w w' : World} {k : Nat} (hb : Below w.heap.size w w') : GotR w ((zeroRc, 0), k) (.returned (.tuple #[.agg zcR, .int .i64 0, .int .i64 (k : Int)])) w' :=
  ⟨.slice none 0 0, rfl, RowAt.nil _ _ _ _, hb⟩
/-- What stands while a record is read: the result's block, the first sector's owner. -/
structure GetS (w : World) (g : Nat) (o : Ow) (W : World) : Prop where
  res : Sits W w.heap.size 83 zcR
  own : Sits W g 126 (owCells o)
  low : Below w.heap.size w W
theorem GetS.down {w : World} {g : Nat} {o : Ow} {W W' : World} (h : GetS w g o W) (hb : Below W.heap.size W W') : GetS w g o W' := ⟨h.res.below' hb, h.own.below' hb, h.low.trans (hb.mono h.low.size)⟩
theorem GetS.zeros {w : World} {g : Nat} {o : Ow} {W : World} (h : GetS w g o W) : Below w.heap.size w (((W.setCell ⟨w.heap.size, 0, none⟩ (.int .u64 0)).setCell ⟨w.heap.size, 1, none⟩ (.int .u64 0)).setCell ⟨w.heap.size, 2, none⟩ (.slice none 0 0)) :=
  ((h.low.setCell (Nat.le_refl _) _).setCell (Nat.le_refl _) _).setCell (Nat.le_refl _) _
theorem recrest_len : ∀ (m : Nat) (o : Ow) (b : List UInt8), b.length = 64 * m → (restF m o b).2 = 0 → (restF m o b).1.length = 42 * m
  | 0, _, _, _, _ => rfl
  | m + 1, o, b, hb, h => by
    rw [restF] at h ⊢
    by_cases h1 : soundB (b.take 64) = false
    · rw [if_pos h1] at h; cases h
    · rw [if_neg h1] at h ⊢
      by_cases h2 : owOf (b.take 64) ≠ o.next
      · rw [if_pos h2] at h; cases h
      · rw [if_neg h2] at h ⊢
        by_cases h3 : (restF m o.next (b.drop 64)).2 = 0
        · have ih := recrest_len m o.next (b.drop 64) (by rw [List.length_drop]; omega) h3
          rw [if_pos h3, List.length_append, ih, dataOf, List.length_drop, List.length_take, List.length_take]
          omega
        · rw [if_neg h3] at h
          exact absurd h h3
theorem RowAt.away {w : World} {base size n g t : Nat} {e : TypeId} {v : Value} {xs : List Value} {cs : Array Value} (h : RowAt w base e size v n xs) (hs : Sits w g t cs) (ht : e ≠ t) (i : Nat) (u : Value) : RowAt (w.setCell ⟨g, i, none⟩ u) base e size v n xs :=
  h.keep fun k hk => by
    obtain ⟨cur, hc⟩ := h.sits k hk
    have hne := hc.apart hs ht
    exact Below.heap_setCell w ⟨g, i, none⟩ u k hne
/-- The region that makes the record: its images are read, a block is made, and the record is stored there, in whatever order. -/
structure MkR (w : World) (g : Nat) (o : Ow) (xs : List Value) (d : Nat → Option Value) (W : World) : Prop where
  st : GetS w g o W
  row : ∀ x, d 9 = some x → RowAt W w.heap.size 42 3 x o.c xs
  new : ∀ y, d 11 = some y → ∃ q, y = .pointer (some ⟨q, 0, none⟩) ∧ w.heap.size < q ∧ (d 12 = none → Sits W q 83 zcR)
  bld : ∀ u, d 10 = some u → ∃ x, d 9 = some x ∧ u = .agg #[.int .u64 (o.e : Int), .int .u64 (o.n : Int), x]
  fin : (d 12).isSome = true → ∃ q x, d 11 = some (.pointer (some ⟨q, 0, none⟩)) ∧ d 9 = some x ∧ Sits W q 83 #[.int .u64 (o.e : Int), .int .u64 (o.n : Int), x]
theorem MkR.start {w W : World} {g : Nat} {o : Ow} {xs : List Value} (h : GetS w g o W) : MkR w g o xs (fun _ => none) W := ⟨h, (fun _ e => by cases e), (fun _ e => by cases e), (fun _ e => by cases e), (fun e => by cases e)⟩
theorem MkR.pure {w W : World} {g : Nat} {o : Ow} {xs : List Value} {d : Nat → Option Value} {k : Nat} {v : Value} (h9 : k ≠ 9) (h10 : k ≠ 10) (h11 : k ≠ 11) (h12 : k ≠ 12) (h : MkR w g o xs d W) : MkR w g o xs (setv d k v) W := by
  refine ⟨h.st, ?_, ?_, ?_, ?_⟩
  · rw [setv_other d v h9]; exact h.row
  · rw [setv_other d v h11, setv_other d v h12]; exact h.new
  · rw [setv_other d v h10, setv_other d v h9]; exact h.bld
  · rw [setv_other d v h12, setv_other d v h11, setv_other d v h9]; exact h.fin
theorem MkR.build {w W : World} {g : Nat} {o : Ow} {xs : List Value} {d : Nat → Option Value} {x : Value} (h : MkR w g o xs d W) (hx : d 9 = some x) : MkR w g o xs (setv d 10 (.agg #[.int .u64 (o.e : Int), .int .u64 (o.n : Int), x])) W := by
  refine ⟨h.st, ?_, ?_, ?_, ?_⟩
  · rw [setv_other d _ (by decide : 10 ≠ 9)]; exact h.row
  · rw [setv_other d _ (by decide : 10 ≠ 11), setv_other d _ (by decide : 10 ≠ 12)]; exact h.new
  · rw [setv_same, setv_other d _ (by decide : 10 ≠ 9)]
    rintro u ⟨⟩
    exact ⟨x, hx, rfl⟩
  · rw [setv_other d _ (by decide : 10 ≠ 12), setv_other d _ (by decide : 10 ≠ 11), setv_other d _ (by decide : 10 ≠ 9)]; exact h.fin
theorem MkR.call {w W W' : World} {g : Nat} {o : Ow} {xs : List Value} {d : Nat → Option Value} {x : Value} (h : MkR w g o xs d W) (hd : d 9 = none) (hb : Below W.heap.size W W') (hx : RowAt W' w.heap.size 42 3 x o.c xs) : MkR w g o xs (setv d 9 x) W' := by
  refine ⟨h.st.down hb, ?_, ?_, ?_, ?_⟩
  · rw [setv_same]
    rintro y ⟨⟩
    exact hx
  · rw [setv_other d x (by decide : 9 ≠ 11), setv_other d x (by decide : 9 ≠ 12)]
    intro y hy
    obtain ⟨q, h1, h2, h3⟩ := h.new y hy
    exact ⟨q, h1, h2, fun e => (h3 e).below' hb⟩
  · rw [setv_other d x (by decide : 9 ≠ 10)]
    intro u hu
    obtain ⟨y, h1, _⟩ := h.bld u hu
    rw [hd] at h1
    cases h1
  · rw [setv_other d x (by decide : 9 ≠ 12)]
    intro e
    obtain ⟨q, y, _, h2, _⟩ := h.fin e
    rw [hd] at h2
    cases h2
theorem MkR.make {w W : World} {g : Nat} {o : Ow} {xs : List Value} {d : Nat → Option Value} (h : MkR w g o xs d W) (hd : d 11 = none) : MkR w g o xs (setv d 11 (.pointer (some ⟨W.heap.size, 0, none⟩))) (W.alloc (.cells zcR 83)) := by
  have hb : Below W.heap.size W (W.alloc (.cells zcR 83)) := (Below.refl _ _).alloc (Nat.le_refl _) _
  refine ⟨h.st.down hb, ?_, ?_, ?_, ?_⟩
  · rw [setv_other d _ (by decide : 11 ≠ 9)]
    exact fun x hx => (h.row x hx).below hb
  · rw [setv_same]
    rintro y ⟨⟩
    exact ⟨_, rfl, h.st.res.lt, fun _ => Sits.fresh W _ _⟩
  · rw [setv_other d _ (by decide : 11 ≠ 10), setv_other d _ (by decide : 11 ≠ 9)]; exact h.bld
  · rw [setv_other d _ (by decide : 11 ≠ 12)]
    intro e
    obtain ⟨q, y, h1, _⟩ := h.fin e
    rw [hd] at h1
    cases h1
theorem MkR.store {w W : World} {g q : Nat} {o : Ow} {xs : List Value} {d : Nat → Option Value} {x u : Value} (h : MkR w g o xs d W) (hd : d 12 = none) (hq : d 11 = some (.pointer (some ⟨q, 0, none⟩))) (hx : d 9 = some x) :
    MkR w g o xs (setv d 12 u) (((W.setCell ⟨q, 0, none⟩ (.int .u64 (o.e : Int))).setCell ⟨q, 1, none⟩ (.int .u64 (o.n : Int))).setCell ⟨q, 2, none⟩ x) := by
  obtain ⟨q', e1, hlt, hs⟩ := h.new _ hq
  injection e1 with e1
  injection e1 with e1
  injection e1 with e1
  subst e1
  have hs0 := hs hd
  have hne : g ≠ q := h.st.own.apart hs0 (by decide)
  refine ⟨⟨((h.st.res.away (p := ⟨q, 0, none⟩) (by show w.heap.size ≠ q; omega) _).away (p := ⟨q, 1, none⟩) (by show w.heap.size ≠ q; omega) _).away (p := ⟨q, 2, none⟩) (by show w.heap.size ≠ q; omega) _,
    ((h.st.own.away (p := ⟨q, 0, none⟩) hne _).away (p := ⟨q, 1, none⟩) hne _).away (p := ⟨q, 2, none⟩) hne _, ((h.st.low.setCell (show w.heap.size ≤ q by omega) _).setCell (show w.heap.size ≤ q by omega) _).setCell (show w.heap.size ≤ q by omega) _⟩, ?_, ?_, ?_, ?_⟩
  · rw [setv_other d u (by decide : 12 ≠ 9)]
    intro y hy
    exact (((h.row y hy).away hs0 (by decide) _ _).away (hs0.put 0 _) (by decide) _ _).away ((hs0.put 0 _).put 1 _) (by decide) _ _
  · rw [setv_other d u (by decide : 12 ≠ 11)]
    intro y hy
    rw [hq] at hy
    cases hy
    refine ⟨q, rfl, hlt, fun e => ?_⟩
    rw [setv_same] at e
    cases e
  · rw [setv_other d u (by decide : 12 ≠ 10), setv_other d u (by decide : 12 ≠ 9)]; exact h.bld
  · intro _
    rw [setv_other d u (by decide : 12 ≠ 11), setv_other d u (by decide : 12 ≠ 9)]
    exact ⟨q, x, hq, hx, ((hs0.put 0 _).put 1 _).put 2 _⟩
theorem rgetF_sound (b : List UInt8) (h : ¬ b.length < 64) (hs : soundB (b.take 64) = true) : ∃ (o : Ow) (sd c : List UInt8) (R : List UInt8 × Nat), o = owOf (b.take 64) ∧ sd = dataOf (b.take 64) ∧ c = b.take (secN o.c * 64) ∧ R = restF (secN o.c - 1) o (c.drop 64) ∧
    rgetF b = if okO o = false then ((zeroRc, 0), 4) else if b.length < secN o.c * 64 then ((zeroRc, 0), 5) else if R.2 ≠ 0 then ((zeroRc, 0), R.2) else if rputF (madeR o (sd ++ R.1)) = (c, 0) then ((madeR o (sd ++ R.1), secN o.c), 0) else ((zeroRc, 0), 4) := by
  refine ⟨_, _, _, _, rfl, rfl, rfl, rfl, ?_⟩
  unfold rgetF
  rw [if_neg h, if_neg (by simp [hs])]
end Go.Proofs.YtlaclbcckadmkaaGreat
