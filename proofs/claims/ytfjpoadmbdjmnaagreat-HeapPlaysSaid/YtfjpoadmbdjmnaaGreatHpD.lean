/- HeapPlays' round behind its switch: At and Find, First. -/
import Derived.Test.YtfjpoadmbdjmnaaGreatHpC
namespace Go.Proofs.YtfjpoadmbdjmnaaGreat
open Go Go.RowKit HeapP
set_option maxRecDepth 1000000
set_option maxHeartbeats 4000000
set_option linter.unusedSimpArgs false

/-- The code behind the piece that begins with region n. -/
def behind (n : Nat) : Code → Option Code
  | .seq a b => match (match a with | .seq (.region m _ _) _ => m == n | _ => false) with
    | true => some b
    | false => match behind n a with
      | some c => some c
      | none => behind n b
  | .block _ c => behind n c
  | .loop c => behind n c
  | .scope c => behind n c
  | _ => none
noncomputable def tailL : Code := (behind 14 bodyL).getD .skip
noncomputable def tail2L : Code := (behind 30 bodyL).getD .skip
noncomputable def tail3L : Code := (behind 33 bodyL).getD .skip
def leftS : Code → Code
  | .seq a _ => a
  | c => c
def rightS : Code → Code
  | .seq _ b => b
  | c => c
theorem tail_split : tailL = .seq (leftS tailL) (.seq (leftS (rightS tailL)) (.seq (leftS (rightS (rightS tailL))) tail2L)) := by kernel_rfl
theorem tail2_split : tail2L = .seq (leftS tail2L) (.seq (leftS (rightS tail2L)) tail3L) := by kernel_rfl
theorem HeapAtI.one_id {w : World} {hb lo c : Nat} {last : Int} {L : List (HeapP.It Int)} (h : HeapAtI w hb lo c last L) {x y : HeapP.It Int} (hx : x ∈ L) (hy : y ∈ L) (e : y.id = x.id) : y = x := by
  obtain ⟨p, g, m, cap, l, D, -, -, -, -, hF, -, -⟩ := h.pile (List.ne_nil_of_mem hx)
  obtain ⟨i, hi, ei⟩ := (hF.mem y).1 hy
  obtain ⟨j, hj, ej⟩ := (hF.mem x).1 hx
  have h0 := hF.distinct hi hj (by rw [ei, ej, e])
  subst h0
  rw [← ei, ← ej]
theorem RefAt.at_ {w : World} {rb lo : Nat} {last : Int} {L : List (HeapP.It Int)} (h : RefAt w rb lo last L) (k : Nat) (hk : k < L.length) : ∃ g cap, w.cell? ⟨rb, 0, none⟩ = some (.slice (some ⟨g, 0, none⟩) L.length cap) ∧
    w.cell? ⟨g, k * 3, none⟩ = some (.int .i64 (gt L k).t) ∧ w.cell? ⟨g, k * 3 + 2, none⟩ = some (.int .i64 (gt L k).v) := by
  obtain ⟨v, hs, hr⟩ := h.rows
  obtain ⟨A, cap, rfl, -, -, h3⟩ := wait_row hr
  obtain ⟨g, rfl, hat⟩ := h3 (by omega)
  exact ⟨g, cap, (hs.cell 0).trans rfl, hat k hk 0 _ rfl, hat k hk 2 _ rfl⟩
theorem tail_at_in (f : Nat → Value) (w w3 : World) (hb rb kb ob c : Nat) (last : Int) (L : List (HeapP.It Int)) (ks : List (Option Nat × Nat)) (ts : List Value) (a : OpH) (Q : Exit → Act → World → Prop) (hST : StP w w3 hb rb kb ob c last L ks ts a) (hlast : last ≤ 300000)
    (h5 : f 5 = .pointer (some ⟨hb, 0, none⟩)) (h6 : f 6 = .pointer (some ⟨rb, 0, none⟩)) (h9 : f 9 = .pointer (some ⟨ob, 0, none⟩)) (h10 : f 10 = .bool true)
    (hQ : ∀ a' w', Kept (f 1) (f 7) (f 8) hb rb ob a' → StP w w' hb rb kb ob c last L ks ts a → Code.wp Tryz.prog tail2L Q a' w') (j : Nat) (hj : j < L.length) (hid : (gt L j).id = a.v) :
    Code.wp Tryz.prog tailL Q ⟨frame f, []⟩ w3 := by
  obtain ⟨o0, o1, o2⟩ := hST.cells
  have hlen := hST.heap.len
  have hLI : (L.length : Int) ≤ 400000 := by omega
  have hat := atI_in hb w.heap.size c last L (gt L j) w3 hST.heap (gt_mem L hj)
  rw [hid] at hat
  have HA := Lib.hid hat
  have HF := Lib.hid (reffind_any rb w.heap.size last L a.v w3 hST.ref (by omega))
  have HJ := Lib.hid (And.intro hj hid)
  have HST := Lib.hid hST
  have HQ := Lib.hid hQ
  have HC := Lib.hid (And.intro hlast hlen)
  clear hST hQ hlast hlen hat hj hid
  unfold frame
  rw [h5, h6, h9, h10]
  clear h5 h6 h9 h10
  rw [tail_split]
  conv => arg 2; arg 1; whnf
  conv => arg 2; arg 2; arg 1; whnf
  conv => arg 2; arg 2; arg 2; arg 1; whnf
  go_wp2_with fail
  refine HA.out.mono ?_
  rintro e w4 ⟨rfl, rfl⟩
  go_wp2_with fail
  refine HF.out.mono ?_
  rintro e w4 ⟨rfl, ⟨k, rfl, hk, hid⟩ | ⟨rfl, hno⟩⟩
  · have hkj : gt L k = gt L j := HST.out.heap.one_id (gt_mem L HJ.out.1) (gt_mem L hk) (by rw [hid, HJ.out.2])
    obtain ⟨g0, cap0, n0, n1, n2⟩ := HST.out.ref.at_ k hk
    rw [hkj] at n1
    have hkI : (k : Int) < (L.length : Int) := by omega
    have d1 : decide ((k : Int) ≥ 0) = true := decide_eq_true (by omega)
    have d2 : decide (0 ≤ (k : Int)) = true := decide_eq_true (by omega)
    have d3 : ((gt L j).t != (gt L j).t) = false := by simp
    clear hk hid hkj
    go_wp2_with fail
    exact HQ.out _ _ ⟨rfl, rfl, rfl, rfl, rfl, rfl, rfl, rfl, rfl⟩ HST.out
  · exact absurd HJ.out.2 (hno _ (gt_mem L HJ.out.1))
theorem tail_at_out (f : Nat → Value) (w w3 : World) (hb rb kb ob c : Nat) (last : Int) (L : List (HeapP.It Int)) (ks : List (Option Nat × Nat)) (ts : List Value) (a : OpH) (Q : Exit → Act → World → Prop) (hST : StP w w3 hb rb kb ob c last L ks ts a) (hlast : last ≤ 300000)
    (h5 : f 5 = .pointer (some ⟨hb, 0, none⟩)) (h6 : f 6 = .pointer (some ⟨rb, 0, none⟩)) (h9 : f 9 = .pointer (some ⟨ob, 0, none⟩)) (h10 : f 10 = .bool true)
    (hQ : ∀ a' w', Kept (f 1) (f 7) (f 8) hb rb ob a' → StP w w' hb rb kb ob c last L ks ts a → Code.wp Tryz.prog tail2L Q a' w') (hw : i64ok a.v) (hno : ∀ y ∈ L, y.id ≠ a.v) :
    Code.wp Tryz.prog tailL Q ⟨frame f, []⟩ w3 := by
  obtain ⟨o0, o1, o2⟩ := hST.cells
  have hlen := hST.heap.len
  have hLI : (L.length : Int) ≤ 400000 := by omega
  have HA := Lib.hid (atI_out hb w.heap.size c last L a.v w3 hST.heap hno hw)
  have HF := Lib.hid (reffind_any rb w.heap.size last L a.v w3 hST.ref (by omega))
  have HN := Lib.hid hno
  have HST := Lib.hid hST
  have HQ := Lib.hid hQ
  have HC := Lib.hid (And.intro hlast hlen)
  clear hST hQ hlast hlen hno hw
  unfold frame
  rw [h5, h6, h9, h10]
  clear h5 h6 h9 h10
  rw [tail_split]
  conv => arg 2; arg 1; whnf
  conv => arg 2; arg 2; arg 1; whnf
  conv => arg 2; arg 2; arg 2; arg 1; whnf
  go_wp2_with fail
  refine HA.out.mono ?_
  rintro e w4 ⟨rfl, rfl⟩
  go_wp2_with fail
  refine HF.out.mono ?_
  rintro e w4 ⟨rfl, ⟨k, rfl, hk, hid⟩ | ⟨rfl, -⟩⟩
  · exact absurd hid (HN.out _ (gt_mem L hk))
  · have d1 : decide ((-1 : Int) ≥ 0) = false := by decide
    go_wp2_with fail
    exact HQ.out _ _ ⟨rfl, rfl, rfl, rfl, rfl, rfl, rfl, rfl, rfl⟩ HST.out
theorem tail_first_none (f : Nat → Value) (w w3 : World) (hb rb kb ob c : Nat) (last : Int) (L : List (HeapP.It Int)) (ks : List (Option Nat × Nat)) (ts : List Value) (a : OpH) (Q : Exit → Act → World → Prop) (hST : StP w w3 hb rb kb ob c last L ks ts a) (hlast : last ≤ 300000)
    (h5 : f 5 = .pointer (some ⟨hb, 0, none⟩)) (h6 : f 6 = .pointer (some ⟨rb, 0, none⟩)) (h9 : f 9 = .pointer (some ⟨ob, 0, none⟩)) (h10 : f 10 = .bool true)
    (hQ : ∀ a' w', Kept (f 1) (f 7) (f 8) hb rb ob a' → StP w w' hb rb kb ob c last L ks ts a → Code.wp Tryz.prog tail3L Q a' w') (hL : L = []) :
    Code.wp Tryz.prog tail2L Q ⟨frame f, []⟩ w3 := by
  obtain ⟨o0, o1, o2⟩ := hST.cells
  have hlen := hST.heap.len
  have hLI : (L.length : Int) ≤ 400000 := by omega
  subst hL
  obtain ⟨A0, cap0, n0⟩ := hST.ref.none_
  have HF := Lib.hid (firstI_none hb w.heap.size c last w3 hST.heap)
  have HST := Lib.hid hST
  have HQ := Lib.hid hQ
  have HC := Lib.hid (And.intro hlast hlen)
  clear hST hQ hlast hlen
  unfold frame
  rw [h5, h6, h9, h10]
  clear h5 h6 h9 h10
  rw [tail2_split]
  conv => arg 2; arg 1; whnf
  conv => arg 2; arg 2; arg 1; whnf
  go_wp2_with fail
  refine HF.out.mono ?_
  rintro e w4 ⟨rfl, rfl⟩
  go_wp2_with fail
  exact HQ.out _ _ ⟨rfl, rfl, rfl, rfl, rfl, rfl, rfl, rfl, rfl⟩ HST.out
theorem tail_first_some (f : Nat → Value) (w w3 : World) (hb rb kb ob c : Nat) (last : Int) (L : List (HeapP.It Int)) (ks : List (Option Nat × Nat)) (ts : List Value) (a : OpH) (Q : Exit → Act → World → Prop) (hST : StP w w3 hb rb kb ob c last L ks ts a) (hlast : last ≤ 300000)
    (h5 : f 5 = .pointer (some ⟨hb, 0, none⟩)) (h6 : f 6 = .pointer (some ⟨rb, 0, none⟩)) (h9 : f 9 = .pointer (some ⟨ob, 0, none⟩)) (h10 : f 10 = .bool true)
    (hQ : ∀ a' w', Kept (f 1) (f 7) (f 8) hb rb ob a' → StP w w' hb rb kb ob c last L ks ts a → Code.wp Tryz.prog tail3L Q a' w') (x : HeapP.It Int) (T : List (HeapP.It Int)) (hL : L = x :: T) :
    Code.wp Tryz.prog tail2L Q ⟨frame f, []⟩ w3 := by
  obtain ⟨o0, o1, o2⟩ := hST.cells
  have hlen := hST.heap.len
  have hLI : (L.length : Int) ≤ 400000 := by omega
  subst hL
  have d2 : decide (((T.length + 1 : Nat) : Int) > 0) = true := decide_eq_true (by omega)
  have d3 : (x.t != x.t) = false := by simp
  have d4 : (x.v != x.v) = false := by simp
  have HF := Lib.hid (firstI_some hb w.heap.size c last x T w3 hST.heap)
  have HST := Lib.hid hST
  have HQ := Lib.hid hQ
  have HC := Lib.hid (And.intro hlast hlen)
  clear hST hQ hlast hlen
  unfold frame
  rw [h5, h6, h9, h10]
  clear h5 h6 h9 h10
  rw [tail2_split]
  conv => arg 2; arg 1; whnf
  conv => arg 2; arg 2; arg 1; whnf
  go_wp2_with fail
  refine HF.out.mono ?_
  rintro e w4 ⟨rfl, hb4⟩
  have h4 := HST.out.below hb4
  obtain ⟨g0, cap0, n0, n1, n2⟩ := h4.ref.head_
  have H4 := Lib.hid h4
  clear o0 o1 o2 h4 hb4
  go_wp2_with fail
  exact HQ.out _ _ ⟨rfl, rfl, rfl, rfl, rfl, rfl, rfl, rfl, rfl⟩ H4.out
end Go.Proofs.YtfjpoadmbdjmnaaGreat
