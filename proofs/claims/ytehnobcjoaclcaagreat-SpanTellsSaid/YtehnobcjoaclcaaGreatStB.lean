/- SpanTells' body cut into pieces; its first loop's inner round: two spans. -/
import Derived.Test.YtehnobcjoaclcaaGreatSpanR
import Derived.Test.YtehnobcjoaclcaaGreatSpanB
import Derived.Test.YtehnobcjoaclcaaGreatPartM
import Derived.Test.YtehnobcjoaclcaaGreatGB
namespace Go.Proofs.YtehnobcjoaclcaaGreat
open Go Go.RowKit SpanP
set_option maxRecDepth 1000000
set_option maxHeartbeats 4000000
set_option linter.unusedSimpArgs false

def theBlock (n : Nat) : Code → Option Code
  | .block m c => if m = n then some c else theBlock n c
  | .loop c => theBlock n c
  | .seq a b => match theBlock n a with
    | some c => some c
    | none => theBlock n b
  | .scope c => theBlock n c
  | .cond _ a b => match theBlock n a with
    | some c => some c
    | none => theBlock n b
  | _ => none
def loopC : Code → Code
  | .loop c => c
  | c => c
noncomputable def wholeL : Code := (Tryz.f3.body).getD .skip
noncomputable def body1L : Code := loopC ((theBlock 0 wholeL).getD .skip)
noncomputable def body2L : Code := loopC ((theBlock 2 wholeL).getD .skip)
noncomputable def body3L : Code := loopC ((theBlock 4 wholeL).getD .skip)
noncomputable def body4L : Code := loopC ((theBlock 6 wholeL).getD .skip)
noncomputable def body5L : Code := loopC ((theBlock 8 wholeL).getD .skip)
/-- A frame, its slots by their numbers. -/
def frame (f : Nat → Value) : Array Value := #[f 0, f 1, f 2, f 3, f 4, f 5, f 6, f 7, f 8, f 9, f 10, f 11, f 12, f 13, f 14, f 15, f 16, f 17, f 18, f 19, f 20, f 21, f 22, f 23, f 24, f 25, f 26, f 27, f 28, f 29, f 30, f 31, f 32, f 33, f 34, f 35, f 36, f 37, f 38, f 39, f 40, f 41, f 42, f 43, f 44, f 45, f 46, f 47, f 48, f 49, f 50, f 51, f 52, f 53, f 54, f 55, f 56, f 57, f 58, f 59, f 60, f 61, f 62, f 63, f 64, f 65, f 66, f 67, f 68, f 69, f 70, f 71, f 72, f 73, f 74, f 75, f 76, f 77, f 78, f 79, f 80, f 81, f 82, f 83, f 84, f 85, f 86, f 87, f 88, f 89, f 90, f 91, f 92, f 93, f 94, f 95, f 96, f 97, f 98, f 99, f 100, f 101, f 102, f 103, f 104, f 105, f 106, f 107, f 108, f 109, f 110, f 111, f 112, f 113, f 114, f 115, f 116, f 117, f 118, f 119, f 120, f 121, f 122, f 123, f 124, f 125, f 126, f 127, f 128, f 129, f 130, f 131, f 132, f 133, f 134, f 135, f 136, f 137, f 138, f 139, f 140, f 141, f 142, f 143, f 144, f 145, f 146, f 147, f 148, f 149, f 150, f 151, f 152, f 153, f 154, f 155, f 156, f 157, f 158, f 159, f 160, f 161, f 162, f 163, f 164, f 165, f 166, f 167, f 168, f 169, f 170, f 171, f 172, f 173, f 174, f 175, f 176, f 177, f 178, f 179, f 180, f 181, f 182, f 183, f 184, f 185, f 186, f 187, f 188, f 189, f 190, f 191, f 192, f 193, f 194, f 195, f 196, f 197, f 198, f 199, f 200, f 201, f 202, f 203, f 204, f 205, f 206, f 207, f 208, f 209, f 210, f 211, f 212, f 213, f 214, f 215, f 216, f 217, f 218, f 219, f 220, f 221, f 222, f 223, f 224, f 225, f 226, f 227, f 228, f 229, f 230, f 231, f 232, f 233, f 234, f 235, f 236, f 237, f 238, f 239, f 240, f 241, f 242, f 243, f 244, f 245, f 246, f 247, f 248, f 249, f 250, f 251, f 252, f 253, f 254, f 255, f 256, f 257, f 258, f 259, f 260, f 261, f 262, f 263, f 264, f 265, f 266, f 267, f 268, f 269, f 270, f 271, f 272, f 273, f 274, f 275, f 276, f 277, f 278, f 279, f 280, f 281, f 282, f 283, f 284, f 285, f 286, f 287]
theorem frame_eq (f : Nat → Value) : frame f = ((List.range 288).map f).toArray := by kernel_rfl
/-- A frame is told by its slots. -/
theorem open_frame (t : Array Value) (h : t.size = 288) : t = frame fun n => t.getD n undef := by
  rw [frame_eq]
  refine Array.ext (by simp [h]) fun i h1 h2 => ?_
  simp [Array.getD_eq_getD_getElem?, h1]
theorem open_act (a : Act) (hd : a.defers = []) (h : a.tmps.size = 288) : a = ⟨frame fun n => a.tmps.getD n undef, []⟩ := by
  obtain ⟨t, d⟩ := a
  simp only at hd h ⊢
  rw [hd, ← open_frame t h]
/-- What the first loop leaves of a frame. -/
def Keep1 (v0 v1 v2 v3 v9 v10 v11 v13 : Value) (a' : Act) : Prop :=
  a'.defers = [] ∧ a'.tmps.size = 288 ∧ a'.tmps.getD 0 undef = v0 ∧ a'.tmps.getD 1 undef = v1 ∧ a'.tmps.getD 2 undef = v2 ∧ a'.tmps.getD 3 undef = v3 ∧ a'.tmps.getD 9 undef = v9 ∧ a'.tmps.getD 10 undef = v10 ∧ a'.tmps.getD 11 undef = v11 ∧ a'.tmps.getD 13 undef = v13
/-- A call, and a new block that has its answer. -/
structure R16 (w3 : World) (x : S) (d : Nat → Option Value) (W : World) : Prop where
  low : Below w3.heap.size w3 W
  ord : (d 10).isSome = true → (d 9).isSome = true
  cell : ∀ p, d 9 = some p → ∃ g, p = .pointer (some ⟨g, 0, none⟩) ∧ w3.heap.size ≤ g ∧ Sits W g 43 (if (d 10).isSome = true then #[.int .i64 x.1, .int .i64 x.2] else #[.int .i64 0, .int .i64 0])
section
variable {w3 W W' : World} {x : S} {d : Nat → Option Value}
theorem R16.below (h : R16 w3 x d W) (hb : Below W.heap.size W W') : R16 w3 x d W' :=
  ⟨h.low.trans (hb.mono h.low.size), h.ord, fun p e => (h.cell p e).imp fun _ h => ⟨h.1, h.2.1, h.2.2.below' hb⟩⟩
theorem R16.start (w3 : World) (x : S) : R16 w3 x (fun _ => none) w3.drew := ⟨(Below.refl _ _).drew, (fun e => by cases e), (fun p e => by cases e)⟩
theorem R16.five (h : R16 w3 x d W) (hb : Below W.heap.size W W') (v : Value) : R16 w3 x (setv d 5 v) W' := ⟨(h.below hb).low, (h.below hb).ord, (h.below hb).cell⟩
theorem R16.nine (h : R16 w3 x d W) (h9 : d 9 = none) : R16 w3 x (setv d 9 (.pointer (some ⟨W.heap.size, 0, none⟩))) (W.alloc (.cells #[.int .i64 0, .int .i64 0] 43)) := by
  have hb : Below W.heap.size W (W.alloc (.cells #[.int .i64 0, .int .i64 0] 43)) := (Below.refl _ _).alloc (Nat.le_refl _) _
  have h10 : d 10 = none := by
    cases e : d 10 with
    | none => rfl
    | some v => have := h.ord (by rw [e]; rfl); rw [h9] at this; cases this
  refine ⟨h.low.trans (hb.mono h.low.size), fun _ => rfl, fun p e => ?_⟩
  obtain rfl : Value.pointer (some ⟨W.heap.size, 0, none⟩) = p := Option.some.inj e
  refine ⟨_, rfl, h.low.size, ?_⟩
  rw [setv_other _ _ (by decide), h10]
  exact Sits.fresh W _ _
theorem R16.ten (h : R16 w3 x d W) {g : Nat} (h9 : d 9 = some (.pointer (some ⟨g, 0, none⟩))) (h10 : d 10 = none) (v : Value) : R16 w3 x (setv d 10 v) ((W.setCell ⟨g, 0, none⟩ (.int .i64 x.1)).setCell ⟨g, 1, none⟩ (.int .i64 x.2)) := by
  obtain ⟨g', e, hg, hs⟩ := h.cell _ h9
  simp only [Value.pointer.injEq, Option.some.injEq, Addr.mk.injEq, and_true] at e
  subst e
  rw [h10] at hs
  refine ⟨(h.low.setCell hg _).setCell hg _, fun _ => by rw [setv_other _ _ (by decide), h9]; rfl, fun p e => ?_⟩
  have e' : d 9 = some p := e
  rw [h9] at e'
  obtain rfl := Option.some.inj e'
  refine ⟨g, rfl, hg, ?_⟩
  rw [setv_same]
  exact (hs.put 0 _).put 1 _
end
theorem pair_round (f : Nat → Value) (w3 : World) (ob : Nat) (s : S) (A : Option Addr) (cap : Nat) (l : List S) (k : Nat) (hk : k < l.length) (hl : l.length ≤ 40) (hop : Sits w3 ob 43 #[.int .i64 s.1, .int .i64 s.2]) (hL : Spans w3 (.slice A l.length cap) l) (hcap : (cap : Int) ≤ 9223372036854775807) (hlc : l.length ≤ cap) (Q : Exit → Act → World → Prop)
    (h1 : f 1 = .slice A l.length cap) (h11 : f 11 = .pointer (some ⟨ob, 0, none⟩)) (h13 : f 13 = .int .i64 k)
    (hQ : ∀ a' w', Keep1 (f 0) (.slice A l.length cap) (f 2) (f 3) (f 9) (f 10) (.pointer (some ⟨ob, 0, none⟩)) (.int .i64 (k + 1 : Nat)) a' → Below w3.heap.size w3 w' → Q .normal a' w') :
    Code.wp Tryz.prog body2L Q ⟨frame f, []⟩ w3 := by
  obtain ⟨A0, cap0, e, -, -, hat⟩ := Spans.read hL
  simp only [Value.slice.injEq, true_and] at e
  obtain ⟨rfl, rfl⟩ := e
  obtain ⟨b1, o, rfl, hb1, c2, c3⟩ := hat k hk
  obtain ⟨t, ht⟩ : ∃ t, t = l[k] := ⟨_, rfl⟩
  rw [← ht] at c2 c3
  obtain ⟨x, hx⟩ : ∃ x, x = (meet s t).getD (0, 0) := ⟨_, rfl⟩
  obtain ⟨g, hg⟩ : ∃ g, g = (meet s t).isSome := ⟨_, rfl⟩
  have hm1 := fun W => meet_any s t W
  have hm2 := fun W => refmeet_any s t W
  have hm3 := fun W => meets_any s t W
  unfold meetV at hm1 hm2
  rw [← hx, ← hg] at hm1 hm2
  rw [← hg] at hm3
  unfold aggS at hm1 hm2 hm3
  have d1 : decide ((k : Int) < (l.length : Int)) = true := by simp; omega
  have hkn : (k : Int) < (l.length : Int) := by omega
  have hlI : (l.length : Int) ≤ (cap : Int) := by omega
  have HBw3 := Lib.hid (And.intro hop.lt hb1)
  have HCw3 := Lib.hid (And.intro (show w3.cell? ⟨ob, 0, none⟩ = some (.int .i64 s.1) from hop.cell 0) (And.intro (show w3.cell? ⟨ob, 1, none⟩ = some (.int .i64 s.2) from hop.cell 1) (And.intro c2 c3)))
  have HM1 := Lib.hid hm1
  have HM2 := Lib.hid hm2
  have HM3 := Lib.hid hm3
  have HQ := Lib.hid hQ
  have HL := Lib.hid (And.intro hk hl)
  clear hop hL hat hb1 c2 c3 ht hx hg hm1 hm2 hm3 hQ hk hl hlc
  unfold frame
  rw [h1, h11, h13]
  clear h1 h11 h13
  conv => arg 2; whnf
  go_wp2_with fail
  refine wp_region_exV (by kernel_rfl) (R16 w3 x)
    [[(11, none)], [(1, none)], [(13, none)], [(99, some 1), (100, some 2)], [(101, some 3)], [(98, some 0), (102, some 4)], [(103, some 5)], [(97, some 6)], [(97, some 6)], [], [(14, some 9), (104, some 7)], [(105, some 8)]]
    [none, none, none, none, none, none, none, none, none, none, none, none, none, none, some 9, some 11, none, none, none, none, none, none, none, none, none, none, none, none, none, none, none, none, none, none, none, none, none, none, none, none, none, none, none, none, none, none, none, none, none, none, none, none, none, none, none, none, none, none, none, none, none, none, none, none, none, none, none, none, none, none, none, none, none, none, none, none, none, none, none, none, none, none, none, none, none, none, none, none, none, none, none, none, none, none, none, none, none, some 6, some 0, some 1, some 2, some 3, some 4, some 5, some 7, some 8, none, none, none, none, none, none, none, none, none, none, none, none, none, none, none, none, none, none, none, none, none, none, none, none, none, none, none, none, none, none, none, none, none, none, none, none, none, none, none, none, none, none, none, none, none, none, none, none, none, none, none, none, none, none, none, none, none, none, none, none, none, none, none, none, none, none, none, none, none, none, none, none, none, none, none, none, none, none, none, none, none, none, none, none, none, none, none, none, none, none, none, none, none, none, none, none, none, none, none, none, none, none, none, none, none, none, none, none, none, none, none, none, none, none, none, none, none, none, none, none, none, none, none, none, none, none, none, none, none, none, none, none, none, none, none, none, none, none, none, none, none, none, none, none, none, none, none, none, none, none, none, none, none, none, none, none, none, none, none, none, none, none, none, none, none, none, none, none, none, none, none, none, none, none, none, none, none, none, none, none, none, none] (by kernel_rfl) (by kernel_rfl) (R16.start _ _) ?_
  iterate 5
    refine exV_pure (c := ?_) (fun _ _ _ h => ⟨h.low, h.ord, h.cell⟩) ?_ ?_
    rotate_left
    · intro a' d' W hR hF
      simp only [FactsV, List.nil_append, List.cons_append, List.getD_cons_zero, List.getD_cons_succ, exists_eq_left, and_true, true_and, List.getElem?_toArray, List.getElem?_cons_zero, List.getElem?_cons_succ] at hF
      have e0 := (hR.low.cell (p := ⟨ob, 0, none⟩) HBw3.out.1).trans HCw3.out.1
      have e1 := (hR.low.cell (p := ⟨ob, 1, none⟩) HBw3.out.1).trans HCw3.out.2.1
      have e2 := (hR.low.cell (p := ⟨b1, o + k * 2, none⟩) HBw3.out.2).trans HCw3.out.2.2.1
      have e3 := (hR.low.cell (p := ⟨b1, o + k * 2 + 1, none⟩) HBw3.out.2).trans HCw3.out.2.2.2
      refine ⟨?_, ?_⟩
      · simp [Region.wanted, yielded, hF]
      · go_simp
        with_reducible rfl
  refine exV_callv (fun v => v = .tuple #[.agg #[.int .i64 x.1, .int .i64 x.2], .bool g]) (fun a' d' W hd hR hF => ?_) ?_
  · skip
    simp only [FactsV, List.nil_append, List.cons_append, List.getD_cons_zero, List.getD_cons_succ, exists_eq_left, and_true, true_and, List.getElem?_toArray, List.getElem?_cons_zero, List.getElem?_cons_succ] at hF
    exact ⟨by simp [Region.wanted, yielded, hF], 9, #[.agg #[.int .i64 s.1, .int .i64 s.2], .agg #[.int .i64 t.1, .int .i64 t.2]], by go_simp, (HM1.out W).mono fun e w' ⟨he, hb⟩ => ⟨_, he, hR.five hb _, rfl⟩⟩
  iterate 3
    refine exV_pure (c := ?_) (fun _ _ _ h => ⟨h.low, h.ord, h.cell⟩) ?_ ?_
    rotate_left
    · intro a' d' W hR hF
      simp only [FactsV, List.nil_append, List.cons_append, List.getD_cons_zero, List.getD_cons_succ, exists_eq_left, and_true, true_and, List.getElem?_toArray, List.getElem?_cons_zero, List.getElem?_cons_succ] at hF
      refine ⟨?_, ?_⟩
      · simp [Region.wanted, yielded, hF]
      · go_simp
        with_reducible rfl
  refine exV_step (fun _ => True) (fun a' d' W hd hR hF => ?_) ?_
  · skip
    refine ⟨by simp [Region.wanted, yielded], .pointer (some ⟨W.heap.size, 0, none⟩), W.alloc (.cells #[.int .i64 0, .int .i64 0] 43), ?_, trivial, hR.nine hd⟩
    go_simp
  refine exV_store (fun a' d' W hd hR hF => ?_) ?_
  · skip
    simp only [FactsV, List.nil_append, List.cons_append, List.getD_cons_zero, List.getD_cons_succ, exists_eq_left, and_true, true_and, List.getElem?_toArray, List.getElem?_cons_zero, List.getElem?_cons_succ] at hF
    obtain ⟨⟨p, hp, h9⟩, hv⟩ := hF
    obtain ⟨z, rfl, hq, hs⟩ := hR.cell p h9
    rw [hd] at hs
    have f0 := hs.warm 0
    have f1 := hs.warm 1
    have c0 : W.cell? ⟨z, 0, none⟩ = some (.int .i64 0) := hs.cell 0
    have c1 : W.cell? ⟨z, 1, none⟩ = some (.int .i64 0) := hs.cell 1
    refine ⟨by simp [Region.wanted, yielded, hp, hv], (W.setCell ⟨z, 0, none⟩ (.int .i64 x.1)).setCell ⟨z, 1, none⟩ (.int .i64 x.2), ?_, hR.ten h9 hd _⟩
    go_simp
  iterate 1
    refine exV_pure (c := ?_) (fun _ _ _ h => ⟨h.low, h.ord, h.cell⟩) ?_ ?_
    rotate_left
    · intro a' d' W hR hF
      simp only [FactsV, List.nil_append, List.cons_append, List.getD_cons_zero, List.getD_cons_succ, exists_eq_left, and_true, true_and, List.getElem?_toArray, List.getElem?_cons_zero, List.getElem?_cons_succ] at hF
      refine ⟨?_, ?_⟩
      · simp [Region.wanted, yielded, hF]
      · go_simp
        with_reducible rfl
  show ∀ d W, _ → _ → _
  intro d w6 hA2 hR2
  simp only [FinV, List.nil_append, List.cons_append, List.getD_cons_zero, List.getD_cons_succ, forall_eq, forall_const, true_implies, forall_exists_index, and_imp, Nat.reduceAdd, Array.getD_eq_getD_getElem?, List.getElem?_toArray, List.getElem?_cons_zero, List.getElem?_cons_succ, Option.getD_some]
  have h10 : (d 10).isSome = true := hA2 10 (by decide)
  clear hA2
  intro p h9 _ _ _ _ _ _ _ _ _ _
  obtain ⟨q, rfl, hq, hs⟩ := hR2.cell p h9
  rw [if_pos h10] at hs
  have hlow := hR2.low
  have HSw6 := Lib.hid hs
  have HWw6 := Lib.hid hlow
  have HQw6 := Lib.hid hq
  have HBw6 := Lib.hid (And.intro (Nat.lt_of_lt_of_le HBw3.out.1 hlow.size) (Nat.lt_of_lt_of_le HBw3.out.2 hlow.size))
  have HCw6 := Lib.hid (And.intro ((hlow.cell (p := ⟨ob, 0, none⟩) HBw3.out.1).trans HCw3.out.1) (And.intro ((hlow.cell (p := ⟨ob, 1, none⟩) HBw3.out.1).trans HCw3.out.2.1) (And.intro ((hlow.cell (p := ⟨b1, o + k * 2, none⟩) HBw3.out.2).trans HCw3.out.2.2.1) ((hlow.cell (p := ⟨b1, o + k * 2 + 1, none⟩) HBw3.out.2).trans HCw3.out.2.2.2))))
  clear hR2 h9 h10 hs hlow hq
  go_wp2_with fail
  refine wp_region_exV (by kernel_rfl) (R16 w6 x)
    [[(11, none)], [(1, none)], [(13, none)], [(108, some 1), (109, some 2)], [(110, some 3)], [(107, some 0), (111, some 4)], [(112, some 5)], [(106, some 6)], [(106, some 6)], [], [(16, some 9), (113, some 7)], [(114, some 8)]]
    [none, none, none, none, none, none, none, none, none, none, none, none, none, none, none, none, some 9, some 11, none, none, none, none, none, none, none, none, none, none, none, none, none, none, none, none, none, none, none, none, none, none, none, none, none, none, none, none, none, none, none, none, none, none, none, none, none, none, none, none, none, none, none, none, none, none, none, none, none, none, none, none, none, none, none, none, none, none, none, none, none, none, none, none, none, none, none, none, none, none, none, none, none, none, none, none, none, none, none, none, none, none, none, none, none, none, none, none, some 6, some 0, some 1, some 2, some 3, some 4, some 5, some 7, some 8, none, none, none, none, none, none, none, none, none, none, none, none, none, none, none, none, none, none, none, none, none, none, none, none, none, none, none, none, none, none, none, none, none, none, none, none, none, none, none, none, none, none, none, none, none, none, none, none, none, none, none, none, none, none, none, none, none, none, none, none, none, none, none, none, none, none, none, none, none, none, none, none, none, none, none, none, none, none, none, none, none, none, none, none, none, none, none, none, none, none, none, none, none, none, none, none, none, none, none, none, none, none, none, none, none, none, none, none, none, none, none, none, none, none, none, none, none, none, none, none, none, none, none, none, none, none, none, none, none, none, none, none, none, none, none, none, none, none, none, none, none, none, none, none, none, none, none, none, none, none, none, none, none, none, none, none, none, none, none, none, none, none, none, none, none, none, none, none, none, none, none, none, none] (by kernel_rfl) (by kernel_rfl) (R16.start _ _) ?_
  iterate 5
    refine exV_pure (c := ?_) (fun _ _ _ h => ⟨h.low, h.ord, h.cell⟩) ?_ ?_
    rotate_left
    · intro a' d' W hR hF
      simp only [FactsV, List.nil_append, List.cons_append, List.getD_cons_zero, List.getD_cons_succ, exists_eq_left, and_true, true_and, List.getElem?_toArray, List.getElem?_cons_zero, List.getElem?_cons_succ] at hF
      have e0 := (hR.low.cell (p := ⟨ob, 0, none⟩) HBw6.out.1).trans HCw6.out.1
      have e1 := (hR.low.cell (p := ⟨ob, 1, none⟩) HBw6.out.1).trans HCw6.out.2.1
      have e2 := (hR.low.cell (p := ⟨b1, o + k * 2, none⟩) HBw6.out.2).trans HCw6.out.2.2.1
      have e3 := (hR.low.cell (p := ⟨b1, o + k * 2 + 1, none⟩) HBw6.out.2).trans HCw6.out.2.2.2
      refine ⟨?_, ?_⟩
      · simp [Region.wanted, yielded, hF]
      · go_simp
        with_reducible rfl
  refine exV_callv (fun v => v = .tuple #[.agg #[.int .i64 x.1, .int .i64 x.2], .bool g]) (fun a' d' W hd hR hF => ?_) ?_
  · skip
    simp only [FactsV, List.nil_append, List.cons_append, List.getD_cons_zero, List.getD_cons_succ, exists_eq_left, and_true, true_and, List.getElem?_toArray, List.getElem?_cons_zero, List.getElem?_cons_succ] at hF
    exact ⟨by simp [Region.wanted, yielded, hF], 10, #[.agg #[.int .i64 s.1, .int .i64 s.2], .agg #[.int .i64 t.1, .int .i64 t.2]], by go_simp, (HM2.out W).mono fun e w' ⟨he, hb⟩ => ⟨_, he, hR.five hb _, rfl⟩⟩
  iterate 3
    refine exV_pure (c := ?_) (fun _ _ _ h => ⟨h.low, h.ord, h.cell⟩) ?_ ?_
    rotate_left
    · intro a' d' W hR hF
      simp only [FactsV, List.nil_append, List.cons_append, List.getD_cons_zero, List.getD_cons_succ, exists_eq_left, and_true, true_and, List.getElem?_toArray, List.getElem?_cons_zero, List.getElem?_cons_succ] at hF
      refine ⟨?_, ?_⟩
      · simp [Region.wanted, yielded, hF]
      · go_simp
        with_reducible rfl
  refine exV_step (fun _ => True) (fun a' d' W hd hR hF => ?_) ?_
  · skip
    refine ⟨by simp [Region.wanted, yielded], .pointer (some ⟨W.heap.size, 0, none⟩), W.alloc (.cells #[.int .i64 0, .int .i64 0] 43), ?_, trivial, hR.nine hd⟩
    go_simp
  refine exV_store (fun a' d' W hd hR hF => ?_) ?_
  · skip
    simp only [FactsV, List.nil_append, List.cons_append, List.getD_cons_zero, List.getD_cons_succ, exists_eq_left, and_true, true_and, List.getElem?_toArray, List.getElem?_cons_zero, List.getElem?_cons_succ] at hF
    obtain ⟨⟨p, hp, h9⟩, hv⟩ := hF
    obtain ⟨z, rfl, hq, hs⟩ := hR.cell p h9
    rw [hd] at hs
    have f0 := hs.warm 0
    have f1 := hs.warm 1
    have c0 : W.cell? ⟨z, 0, none⟩ = some (.int .i64 0) := hs.cell 0
    have c1 : W.cell? ⟨z, 1, none⟩ = some (.int .i64 0) := hs.cell 1
    refine ⟨by simp [Region.wanted, yielded, hp, hv], (W.setCell ⟨z, 0, none⟩ (.int .i64 x.1)).setCell ⟨z, 1, none⟩ (.int .i64 x.2), ?_, hR.ten h9 hd _⟩
    go_simp
  iterate 1
    refine exV_pure (c := ?_) (fun _ _ _ h => ⟨h.low, h.ord, h.cell⟩) ?_ ?_
    rotate_left
    · intro a' d' W hR hF
      simp only [FactsV, List.nil_append, List.cons_append, List.getD_cons_zero, List.getD_cons_succ, exists_eq_left, and_true, true_and, List.getElem?_toArray, List.getElem?_cons_zero, List.getElem?_cons_succ] at hF
      refine ⟨?_, ?_⟩
      · simp [Region.wanted, yielded, hF]
      · go_simp
        with_reducible rfl
  show ∀ d W, _ → _ → _
  intro d w7 hA2 hR2
  simp only [FinV, List.nil_append, List.cons_append, List.getD_cons_zero, List.getD_cons_succ, forall_eq, forall_const, true_implies, forall_exists_index, and_imp, Nat.reduceAdd, Array.getD_eq_getD_getElem?, List.getElem?_toArray, List.getElem?_cons_zero, List.getElem?_cons_succ, Option.getD_some]
  have h10 : (d 10).isSome = true := hA2 10 (by decide)
  clear hA2
  intro p h9 _ _ _ _ _ _ _ _ _ _
  obtain ⟨r, rfl, hq, hs⟩ := hR2.cell p h9
  rw [if_pos h10] at hs
  have hlow := hR2.low
  have HSw7 := Lib.hid hs
  have HWw7 := Lib.hid hlow
  have HQw7 := Lib.hid hq
  have HBw7 := Lib.hid (And.intro (Nat.lt_of_lt_of_le HBw6.out.1 hlow.size) (Nat.lt_of_lt_of_le HBw6.out.2 hlow.size))
  have HCw7 := Lib.hid (And.intro ((hlow.cell (p := ⟨ob, 0, none⟩) HBw6.out.1).trans HCw6.out.1) (And.intro ((hlow.cell (p := ⟨ob, 1, none⟩) HBw6.out.1).trans HCw6.out.2.1) (And.intro ((hlow.cell (p := ⟨b1, o + k * 2, none⟩) HBw6.out.2).trans HCw6.out.2.2.1) ((hlow.cell (p := ⟨b1, o + k * 2 + 1, none⟩) HBw6.out.2).trans HCw6.out.2.2.2))))
  clear hR2 h9 h10 hs hlow hq
  have HSX := Lib.hid (HSw6.out.below' HWw7.out)
  have HLOW := Lib.hid (HWw6.out.trans (HWw7.out.mono HWw6.out.size))
  have hgg : (g != g) = false := by cases g <;> rfl
  go_wp2_with fail
  refine wp_region_ex (by kernel_rfl) (fun W => Below w7.heap.size w7 W) (fun W W' => Below W.heap.size W W')
    [[(14, none)], [(16, none)], [(115, some 0), (116, some 1)], [(117, some 2)], [(15, none), (118, some 3)], [(17, none), (118, some 3)], [(118, some 3), (119, some 4), (120, some 5)], [(118, some 3), (121, some 6)], [(122, some 7)], [(11, none), (123, some 8)], [(1, none), (123, some 8)], [(13, none), (123, some 8)], [(123, some 8), (125, some 10), (126, some 11)], [(123, some 8), (127, some 12)], [(123, some 8), (124, some 9), (128, some 13)], [(17, none), (123, some 8)], [(123, some 8), (129, some 14), (130, some 15)], [(123, some 8), (131, some 16)]]
    [none, none, none, none, none, none, none, none, none, none, none, none, none, none, none, none, none, none, none, none, none, none, none, none, none, none, none, none, none, none, none, none, none, none, none, none, none, none, none, none, none, none, none, none, none, none, none, none, none, none, none, none, none, none, none, none, none, none, none, none, none, none, none, none, none, none, none, none, none, none, none, none, none, none, none, none, none, none, none, none, none, none, none, none, none, none, none, none, none, none, none, none, none, none, none, none, none, none, none, none, none, none, none, none, none, none, none, none, none, none, none, none, none, none, none, some 0, some 1, some 2, some 3, some 4, some 5, some 6, some 7, some 8, some 9, some 10, some 11, some 12, some 13, some 14, some 15, some 16, some 17, none, none, none, none, none, none, none, none, none, none, none, none, none, none, none, none, none, none, none, none, none, none, none, none, none, none, none, none, none, none, none, none, none, none, none, none, none, none, none, none, none, none, none, none, none, none, none, none, none, none, none, none, none, none, none, none, none, none, none, none, none, none, none, none, none, none, none, none, none, none, none, none, none, none, none, none, none, none, none, none, none, none, none, none, none, none, none, none, none, none, none, none, none, none, none, none, none, none, none, none, none, none, none, none, none, none, none, none, none, none, none, none, none, none, none, none, none, none, none, none, none, none, none, none, none, none, none, none, none, none, none, none, none, none, none, none, none, none, none, none, none, none, none, none, none, none, none, none, none, none, none, none, none, none, none] (by kernel_rfl) (by kernel_rfl) ((Below.refl _ _).drew) ?_
  iterate 14
    refine ex_pure (c := ?_) (fun _ _ => Below.refl _ _) ?_ ?_
    rotate_left
    · intro a' W hR hF
      simp only [FactsOf, List.nil_append, List.cons_append, List.getD_cons_zero, List.getD_cons_succ, exists_eq_left, and_true, List.getElem?_toArray, List.getElem?_cons_zero, List.getElem?_cons_succ] at hF
      have n0 := (HSX.out.below' hR).cell 0
      have n1 := (HSX.out.below' hR).cell 1
      have m0 := (HSw7.out.below' hR).cell 0
      have m1 := (HSw7.out.below' hR).cell 1
      have e0 := (hR.cell (p := ⟨ob, 0, none⟩) HBw7.out.1).trans HCw7.out.1
      have e1 := (hR.cell (p := ⟨ob, 1, none⟩) HBw7.out.1).trans HCw7.out.2.1
      have e2 := (hR.cell (p := ⟨b1, o + k * 2, none⟩) HBw7.out.2).trans HCw7.out.2.2.1
      have e3 := (hR.cell (p := ⟨b1, o + k * 2 + 1, none⟩) HBw7.out.2).trans HCw7.out.2.2.2
      simp at n0 n1 m0 m1
      refine ⟨?_, ?_⟩
      · simp [Region.wanted, yielded, hF]
      · go_simp
        with_reducible rfl
  refine ex_callx (.bool g) (fun a' W hR hF => ?_) ?_
  · skip
    simp only [FactsOf, List.nil_append, List.cons_append, List.getD_cons_zero, List.getD_cons_succ, exists_eq_left, and_true, List.getElem?_toArray, List.getElem?_cons_zero, List.getElem?_cons_succ] at hF
    refine ⟨by simp [Region.wanted, yielded, hF], 11, #[.agg #[.int .i64 s.1, .int .i64 s.2], .agg #[.int .i64 t.1, .int .i64 t.2]], by go_simp, (HM3.out W).mono fun e w' ⟨he, hb⟩ => ⟨he, hR.trans (hb.mono hR.size), hb⟩⟩
  iterate 3
    refine ex_pure (c := ?_) (fun _ _ => Below.refl _ _) ?_ ?_
    rotate_left
    · intro a' W hR hF
      simp only [FactsOf, List.nil_append, List.cons_append, List.getD_cons_zero, List.getD_cons_succ, exists_eq_left, and_true, List.getElem?_toArray, List.getElem?_cons_zero, List.getElem?_cons_succ] at hF
      refine ⟨?_, ?_⟩
      · simp [Region.wanted, yielded, hF]
      · go_simp
        with_reducible rfl
  show ∀ W, _ → _
  intro w8 hR2
  simp only [FinOf, List.nil_append, List.cons_append, List.getD_cons_zero, List.getD_cons_succ, forall_eq, forall_exists_index, and_imp, Nat.reduceAdd, Array.getD_eq_getD_getElem?, List.getElem?_toArray, List.getElem?_cons_zero, List.getElem?_cons_succ, Option.getD_some]
  have hw8 := hR2
  clear hR2
  go_wp2_with fail
  exact HQ.out _ _ ⟨rfl, rfl, rfl, rfl, rfl, rfl, rfl, rfl, rfl, rfl⟩ (HLOW.out.trans (hw8.mono HLOW.out.size))
end Go.Proofs.YtehnobcjoaclcaaGreat
