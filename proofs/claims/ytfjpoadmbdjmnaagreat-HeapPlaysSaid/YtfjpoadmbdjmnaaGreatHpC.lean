/- HeapPlays' switch: take, cancel. -/
import Derived.Test.YtfjpoadmbdjmnaaGreatHpB
import Derived.BigQuiet
namespace Go.Proofs.YtfjpoadmbdjmnaaGreat
open Go Go.RowKit HeapP
set_option maxRecDepth 1000000
set_option maxHeartbeats 4000000
set_option linter.unusedSimpArgs false

theorem RefAt.none_ {w : World} {rb lo : Nat} {last : Int} (h : RefAt w rb lo last []) : ∃ A cap, w.cell? ⟨rb, 0, none⟩ = some (.slice A 0 cap) := by
  obtain ⟨v, hs, hr⟩ := h.rows
  obtain ⟨A, cap, rfl, -⟩ := wait_row hr
  exact ⟨A, cap, (hs.cell 0).trans rfl⟩
theorem RefAt.head_ {w : World} {rb lo : Nat} {last : Int} {x : HeapP.It Int} {L : List (HeapP.It Int)} (h : RefAt w rb lo last (x :: L)) : ∃ g cap, w.cell? ⟨rb, 0, none⟩ = some (.slice (some ⟨g, 0, none⟩) (L.length + 1) cap) ∧
    w.cell? ⟨g, 0, none⟩ = some (.int .i64 x.t) ∧ w.cell? ⟨g, 2, none⟩ = some (.int .i64 x.v) := by
  obtain ⟨v, hs, hr⟩ := h.rows
  obtain ⟨A, cap, rfl, -, -, h3⟩ := wait_row hr
  obtain ⟨g, rfl, hat⟩ := h3 (by simp)
  exact ⟨g, cap, (hs.cell 0).trans rfl, hat 0 (by simp) 0 _ rfl, hat 0 (by simp) 2 _ rfl⟩
theorem sw_take_none (f : Nat → Value) (w w3 : World) (hb rb kb ob c : Nat) (last : Int) (L : List (HeapP.It Int)) (ks : List (Option Nat × Nat)) (ts : List Value) (a : OpH) (Q : Exit → Act → World → Prop) (hST : StP w w3 hb rb kb ob c last L ks ts a) (hc : c ≤ 500000) (hlast : last ≤ 300000)
    (h5 : f 5 = .pointer (some ⟨hb, 0, none⟩)) (h6 : f 6 = .pointer (some ⟨rb, 0, none⟩)) (h9 : f 9 = .pointer (some ⟨ob, 0, none⟩)) (h10 : f 10 = .bool true) (h49 : f 49 = .int .i64 a.kind)
    (hQ : ∀ a' w' c' last' L', Kept (f 1) (f 7) (f 8) hb rb ob a' → c' ≤ c + 1 → last' ≤ last + 1 → StP w w' hb rb kb ob c' last' L' ks ts a → Q .normal a' w') (hk : a.kind = 2) (hL : L = []) :
    Code.wp Tryz.prog swL Q ⟨frame f, []⟩ w3 := by
  obtain ⟨o0, o1, o2⟩ := hST.cells
  have hlo := hST.low.size
  have hlen := hST.heap.len
  have hl0 := hST.heap.last_ge
  have e1 : (a.kind == 1) = false := by simp [hk]
  have e2 : (a.kind == 2) = true := by simp [hk]
  subst hL
  obtain ⟨A0, cap0, n0⟩ := hST.ref.none_
  have HT := Lib.hid (takeI_none hb w.heap.size c last a.n w3 hST.heap)
  have HST := Lib.hid hST
  have HQ := Lib.hid hQ
  have HC := Lib.hid (And.intro hc (And.intro hlast (And.intro hlo (And.intro hlen hl0))))
  clear hST hQ hc hlast hlo hlen hl0 hk
  unfold frame
  rw [h5, h6, h9, h10, h49]
  clear h5 h6 h9 h10 h49
  conv => arg 2; whnf
  go_wp2_with fail
  refine HT.out.mono ?_
  rintro e w4 ⟨rfl, rfl⟩
  go_wp2_with fail
  go_quiet (fail)
  go_wp2_with fail
  exact HQ.out _ _ c last [] ⟨rfl, rfl, rfl, rfl, rfl, rfl, rfl, rfl, rfl⟩ (by omega) (by omega) (HST.out.below (below_drewN (Below.refl _ _) _))
theorem sw_take_early (f : Nat → Value) (w w3 : World) (hb rb kb ob c : Nat) (last : Int) (L : List (HeapP.It Int)) (ks : List (Option Nat × Nat)) (ts : List Value) (a : OpH) (Q : Exit → Act → World → Prop) (hST : StP w w3 hb rb kb ob c last L ks ts a) (hc : c ≤ 500000) (hlast : last ≤ 300000)
    (h5 : f 5 = .pointer (some ⟨hb, 0, none⟩)) (h6 : f 6 = .pointer (some ⟨rb, 0, none⟩)) (h9 : f 9 = .pointer (some ⟨ob, 0, none⟩)) (h10 : f 10 = .bool true) (h49 : f 49 = .int .i64 a.kind)
    (hQ : ∀ a' w' c' last' L', Kept (f 1) (f 7) (f 8) hb rb ob a' → c' ≤ c + 1 → last' ≤ last + 1 → StP w w' hb rb kb ob c' last' L' ks ts a → Q .normal a' w') (x : HeapP.It Int) (T : List (HeapP.It Int)) (hk : a.kind = 2) (hL : L = x :: T) (hx : a.n < x.t) :
    Code.wp Tryz.prog swL Q ⟨frame f, []⟩ w3 := by
  obtain ⟨o0, o1, o2⟩ := hST.cells
  have hlo := hST.low.size
  have hlen := hST.heap.len
  have hl0 := hST.heap.last_ge
  have e1 : (a.kind == 1) = false := by simp [hk]
  have e2 : (a.kind == 2) = true := by simp [hk]
  subst hL
  obtain ⟨g0, cap0, n0, n1, n2⟩ := hST.ref.head_
  have d1 : decide (x.t ≤ a.n) = false := decide_eq_false (by omega)
  have d2 : decide (((T.length + 1 : Nat) : Int) > 0) = true := decide_eq_true (by omega)
  have HT := Lib.hid (takeI_early hb w.heap.size c last x T a.n w3 hST.heap hx)
  have HST := Lib.hid hST
  have HQ := Lib.hid hQ
  have HC := Lib.hid (And.intro hc (And.intro hlast (And.intro hlo (And.intro hlen hl0))))
  clear hST hQ hc hlast hlo hlen hl0 hk hx
  unfold frame
  rw [h5, h6, h9, h10, h49]
  clear h5 h6 h9 h10 h49
  conv => arg 2; whnf
  go_wp2_with fail
  refine HT.out.mono ?_
  rintro e w4 ⟨rfl, hb4⟩
  have h4 := HST.out.below hb4
  have HST4 := Lib.hid h4
  obtain ⟨o0', o1', o2'⟩ := h4.cells
  have n0' := (hb4.cell (p := ⟨rb, 0, none⟩) (World.block_lt_of_cell? _ _ n0)).trans n0
  have n1' := (hb4.cell (p := ⟨g0, 0, none⟩) (World.block_lt_of_cell? _ _ n1)).trans n1
  clear o0 o1 o2 n0 n1 n2 h4 hb4
  go_wp2_with fail
  go_quiet (fail)
  go_wp2_with fail
  exact HQ.out _ _ c last (x :: T) ⟨rfl, rfl, rfl, rfl, rfl, rfl, rfl, rfl, rfl⟩ (by omega) (by omega) (HST4.out.below (below_drewN (Below.refl _ _) _))
theorem sw_take_due (f : Nat → Value) (w w3 : World) (hb rb kb ob c : Nat) (last : Int) (L : List (HeapP.It Int)) (ks : List (Option Nat × Nat)) (ts : List Value) (a : OpH) (Q : Exit → Act → World → Prop) (hST : StP w w3 hb rb kb ob c last L ks ts a) (hc : c ≤ 500000) (hlast : last ≤ 300000)
    (h5 : f 5 = .pointer (some ⟨hb, 0, none⟩)) (h6 : f 6 = .pointer (some ⟨rb, 0, none⟩)) (h9 : f 9 = .pointer (some ⟨ob, 0, none⟩)) (h10 : f 10 = .bool true) (h49 : f 49 = .int .i64 a.kind)
    (hQ : ∀ a' w' c' last' L', Kept (f 1) (f 7) (f 8) hb rb ob a' → c' ≤ c + 1 → last' ≤ last + 1 → StP w w' hb rb kb ob c' last' L' ks ts a → Q .normal a' w') (x : HeapP.It Int) (T : List (HeapP.It Int)) (hk : a.kind = 2) (hL : L = x :: T) (hx : x.t ≤ a.n) :
    Code.wp Tryz.prog swL Q ⟨frame f, []⟩ w3 := by
  obtain ⟨o0, o1, o2⟩ := hST.cells
  have hlo := hST.low.size
  have hlen := hST.heap.len
  have hl0 := hST.heap.last_ge
  have e1 : (a.kind == 1) = false := by simp [hk]
  have e2 : (a.kind == 2) = true := by simp [hk]
  subst hL
  have d1 : decide (x.t ≤ a.n) = true := decide_eq_true hx
  have d2 : decide (((T.length + 1 : Nat) : Int) > 0) = true := decide_eq_true (by omega)
  have d3 : (x.v == x.v) = true := beq_self_eq_true _
  have HT := Lib.hid (takeI_due hb w.heap.size c last x T a.n w3 hST.heap hx (by omega) hlo)
  have HST := Lib.hid hST
  have HQ := Lib.hid hQ
  have HC := Lib.hid (And.intro hc (And.intro hlast (And.intro hlo (And.intro hlen hl0))))
  clear hST hQ hc hlast hlo hlen hl0 hk hx
  unfold frame
  rw [h5, h6, h9, h10, h49]
  clear h5 h6 h9 h10 h49
  conv => arg 2; whnf
  go_wp2_with fail
  refine HT.out.mono ?_
  rintro e w4 ⟨rfl, hh, ht, hl⟩
  have M4 := HST.out.mid.heapstep hh ht hl
  have HM4 := Lib.hid M4
  obtain ⟨o0', o1', o2'⟩ := M4.cells
  obtain ⟨g0, cap0, n0, n1, n2⟩ := M4.ref.head_
  clear o0 o1 o2 hh ht hl M4
  go_wp2_with fail
  go_quiet (fail)
  go_wp2_with fail
  have M5 := Lib.hid (HM4.out.below (below_drewN (Below.refl _ _) nq))
  refine (refout_any rb w.heap.size last (x :: T) 0 (w4.drewN nq) M5.out.ref (by have := HC.out; omega) (by simp) M5.out.low.size).mono ?_
  rintro e w5 ⟨rfl, hr, ho, hl⟩
  have M6 := Lib.hid (MidP.refstep M5.out hr ho hl)
  clear hr ho hl n0 n1 n2 o0' o1' o2'
  go_wp2_with fail
  exact HQ.out _ _ (c + 1) last T ⟨rfl, rfl, rfl, rfl, rfl, rfl, rfl, rfl, rfl⟩ (Nat.le_refl _) (by omega) (show MidP w w5 hb rb kb ob (c + 1) last last T T ks ts a from M6.out).stay
theorem out_filter' {A B : List (HeapP.It Int)} {x : HeapP.It Int} (hu : ∀ y ∈ A ++ x :: B, y.id = x.id → y = x) (hn : (A ++ x :: B).Nodup) : (A ++ x :: B).filter (fun y => !(y.id == x.id)) = A ++ B := by
  have hd := List.nodup_append.1 hn
  have hA : ∀ y ∈ A, (!(y.id == x.id)) = true := fun y hy => by
    by_cases e : y.id = x.id
    · have e2 := hu y (List.mem_append_left _ hy) e
      exact absurd e2 (hd.2.2 y hy x List.mem_cons_self)
    · simp [e]
  have hB : ∀ y ∈ B, (!(y.id == x.id)) = true := fun y hy => by
    by_cases e : y.id = x.id
    · have e2 := hu y (List.mem_append_right _ (List.mem_cons_of_mem _ hy)) e
      exact absurd (e2 ▸ hy) (List.nodup_cons.1 hd.2.1).1
    · simp [e]
  rw [List.filter_append, List.filter_cons_of_neg (by simp), List.filter_eq_self.2 hA, List.filter_eq_self.2 hB]
theorem HeapAtI.out_at {w : World} {hb lo c : Nat} {last : Int} {L : List (HeapP.It Int)} (h : HeapAtI w hb lo c last L) (k : Nat) (hk : k < L.length) : gt L k ∈ L ∧ L.filter (fun y => !(y.id == (gt L k).id)) = L.take k ++ L.drop (k + 1) := by
  have hm : gt L k ∈ L := gt_mem L hk
  refine ⟨hm, ?_⟩
  obtain ⟨p, g, m, cap, l, D, -, -, -, -, hF, -, -⟩ := h.pile (List.ne_nil_of_mem hm)
  have hn := toldI_nodup h.told
  have hu : ∀ y ∈ L, y.id = (gt L k).id → y = gt L k := fun y hy e => by
    obtain ⟨i, hi, ei⟩ := (hF.mem y).1 hy
    obtain ⟨j, hj, ej⟩ := (hF.mem _).1 hm
    have h0 := hF.distinct hi hj (by rw [ei, ej, e])
    subst h0
    rw [← ei, ← ej]
  have hL : L = L.take k ++ gt L k :: L.drop (k + 1) := by
    rw [gt_elem L hk, ← List.drop_eq_getElem_cons hk, List.take_append_drop]
  generalize gt L k = x at hu hL ⊢
  generalize L.take k = A at hL ⊢
  generalize L.drop (k + 1) = B at hL ⊢
  subst hL
  exact out_filter' hu hn
theorem sw_cancel (f : Nat → Value) (w w3 : World) (hb rb kb ob c : Nat) (last : Int) (L : List (HeapP.It Int)) (ks : List (Option Nat × Nat)) (ts : List Value) (a : OpH) (Q : Exit → Act → World → Prop) (hST : StP w w3 hb rb kb ob c last L ks ts a) (hc : c ≤ 500000) (hlast : last ≤ 300000)
    (h5 : f 5 = .pointer (some ⟨hb, 0, none⟩)) (h6 : f 6 = .pointer (some ⟨rb, 0, none⟩)) (h9 : f 9 = .pointer (some ⟨ob, 0, none⟩)) (h10 : f 10 = .bool true) (h49 : f 49 = .int .i64 a.kind)
    (hQ : ∀ a' w' c' last' L', Kept (f 1) (f 7) (f 8) hb rb ob a' → c' ≤ c + 1 → last' ≤ last + 1 → StP w w' hb rb kb ob c' last' L' ks ts a → Q .normal a' w') (n1 : a.kind ≠ 1) (n2 : a.kind ≠ 2) (hw : i64ok a.n) :
    Code.wp Tryz.prog swL Q ⟨frame f, []⟩ w3 := by
  obtain ⟨o0, o1, o2⟩ := hST.cells
  have hlo := hST.low.size
  have hlen := hST.heap.len
  have hl0 := hST.heap.last_ge
  have e1 : (a.kind == 1) = false := by simp [n1]
  have e2 : (a.kind == 2) = false := by simp [n2]
  have HW := Lib.hid hw
  have HR0 := Lib.hid (reffind_any rb w.heap.size last L a.n w3 hST.ref (by omega))
  have HST := Lib.hid hST
  have HQ := Lib.hid hQ
  have HC := Lib.hid (And.intro hc (And.intro hlast (And.intro hlo (And.intro hlen hl0))))
  clear hST hQ hc hlast hlo hlen hl0 n1 n2 hw
  unfold frame
  rw [h5, h6, h9, h10, h49]
  clear h5 h6 h9 h10 h49
  conv => arg 2; whnf
  go_wp2_with fail
  refine HR0.out.mono ?_
  rintro e w4 ⟨rfl, ⟨k, rfl, hk, hid⟩ | ⟨rfl, hno⟩⟩
  · obtain ⟨hx, hflt⟩ := HST.out.heap.out_at k hk
    have hcan := cancelI_in hb w.heap.size c last L (gt L k) w3 HST.out.heap hx (by have := HC.out; omega) HC.out.2.2.1
    rw [hflt, hid] at hcan
    have HX := Lib.hid (And.intro hk hcan)
    have d1 : decide ((k : Int) ≥ 0) = true := decide_eq_true (by omega)
    have d2 : decide (0 ≤ (k : Int)) = true := decide_eq_true (by omega)
    clear hx hflt hk hid hcan
    go_wp2_with fail
    refine HX.out.2.mono ?_
    rintro e w5 ⟨rfl, hh, ht, hl⟩
    have M5 := Lib.hid (HST.out.mid.heapstep hh ht hl)
    clear hh ht hl o0 o1 o2
    go_wp2_with fail
    refine (refout_any rb w.heap.size last L k w5 M5.out.ref (by have := HC.out; omega) HX.out.1 M5.out.low.size).mono ?_
    rintro e w6 ⟨rfl, hr, ho, hl⟩
    have M6 := Lib.hid (MidP.refstep M5.out hr ho hl)
    clear hr ho hl
    go_wp2_with fail
    exact HQ.out _ _ (c + 1) last _ ⟨rfl, rfl, rfl, rfl, rfl, rfl, rfl, rfl, rfl⟩ (Nat.le_refl _) (by omega) M6.out.stay
  · have d1 : decide ((-1 : Int) ≥ 0) = false := by decide
    have HN := Lib.hid hno
    clear hno
    go_wp2_with fail
    refine (cancelI_out hb w.heap.size c last L a.n w3 HST.out.heap HN.out HW.out).mono ?_
    rintro e w5 ⟨rfl, rfl⟩
    go_wp2_with fail
    exact HQ.out _ _ c last L ⟨rfl, rfl, rfl, rfl, rfl, rfl, rfl, rfl, rfl⟩ (by omega) (by omega) HST.out
end Go.Proofs.YtfjpoadmbdjmnaaGreat
