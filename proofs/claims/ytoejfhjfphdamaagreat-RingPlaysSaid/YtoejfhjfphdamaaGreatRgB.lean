/- RingPlays' round behind its switch. -/
import Derived.Test.YtoejfhjfphdamaaGreatRgA
namespace Go.Proofs.YtoejfhjfphdamaaGreat
open Go Go.RowKit
set_option maxRecDepth 1000000
set_option maxHeartbeats 4000000
set_option linter.unusedSimpArgs false

/-- The code behind the piece that begins with region n. -/
def behind (n : Nat) : Code → Option Code
  | .seq a b => match (match a with | .seq (.region m _ _) _ => m == n | _ => false) with
    | true => some b
    | false => match behind n a with
      | some c => some c
      | none => behind n b
  | .block _ c => behind n c
  | .loop c => behind n c
  | .scope c => behind n c
  | _ => none
noncomputable def tailL : Code := (behind 18 bodyL).getD .skip
def leftS : Code → Code
  | .seq a _ => a
  | c => c
def rightS : Code → Code
  | .seq _ b => b
  | c => c
/-- One more list is kept. -/
theorem StR.booked {w wx wy : World} {rp rg kb ob m ga n : Nat} {L X : List Int} {xv u : Value} {ks : List (Option Nat × Nat)} {ts : List Value} {a : OpR} (h : StR w wx rp rg kb ob m L X xv ks ts a) (hb : BookAt wy kb w.heap.size (ks ++ [(some ga, n)]) (ts ++ [u])) (hm : Many (BlkB wx) wx wy)
    (hlo : Below w.heap.size wx wy) (hu : ∀ k, u.ownBlock = some k → k ≠ rg) (hg : ga ≠ rg) : StR w wy rp rg kb ob m L X xv (ks ++ [(some ga, n)]) (ts ++ [u]) a := by
  have hnb : ∀ b t cs, b = rp ∨ b = rg → Sits wx b t cs → Sits wy b t cs := fun b t cs hb hs => by
    refine (hm.block b hs.lt fun hS => ?_).trans hs
    rcases hS with ⟨cs', h'⟩ | ⟨cs', h'⟩ <;> exact h.not h' (by decide) (by decide) hb
  refine ⟨h.ring.keep hnb, RowAt.keep h.row fun k hk => ?_, h.xg, hb, ⟨fun x hx => ?_, fun y hy => ?_⟩, h.mine, h.low.trans hlo, ?_⟩
  · obtain ⟨cs, hs⟩ := RowAt.sits h.row k hk
    refine hm.block k hs.lt fun hS => ?_
    rcases hS with ⟨cs', h'⟩ | ⟨cs', h'⟩ <;> exact absurd rfl (hs.apart h' (by decide))
  · rcases List.mem_append.1 hx with hx | hx
    · exact h.apart.1 x hx
    · rw [List.mem_singleton.1 hx]
      intro e
      simp only [Option.some.injEq] at e
      exact hg e
  · rcases List.mem_append.1 hy with hy | hy
    · exact h.apart.2 y hy
    · rw [List.mem_singleton.1 hy]
      exact fun e => hu rg e rfl
  · refine (hm.block ob h.op.lt fun hS => ?_).trans h.op
    rcases hS with ⟨cs', h'⟩ | ⟨cs', h'⟩ <;> exact absurd rfl (h.op.apart h' (by decide))
/-- The ring's list, to be kept. -/
theorem list_kept {w wx : World} {rp rg kb ob m : Nat} {L : List Int} {xv : Value} {ks : List (Option Nat × Nat)} {ts : List Value} {a : OpR} (h : StR w wx rp rg kb ob m L L xv ks ts a) (hk : ks.length < 250) :
    Calls Tryz.prog 15 #[.pointer (some ⟨rp, 0, none⟩)] wx fun e w5 => ∃ ga, e = .returned (.slice (some ⟨ga, 0, none⟩) L.length L.length) ∧ StR w w5 rp rg kb ob m L L xv ks ts a ∧ Ints w5 (.slice (some ⟨ga, 0, none⟩) L.length L.length) L ∧ (∃ cs, Sits w5 ga 3 cs) ∧
      Calls Tryz.prog 16 #[.pointer (some ⟨kb, 0, none⟩), .slice (some ⟨ga, 0, none⟩) L.length L.length] w5 fun e w6 => e = .returned (.tuple #[]) ∧ ∃ u, StR w w6 rp rg kb ob m L L xv (ks ++ [(some ga, L.length)]) (ts ++ [u]) a ∧ Ints w6 (.slice (some ⟨ga, 0, none⟩) L.length L.length) L := by
  refine (listI_any rp rg m L wx h.ring).mono ?_
  rintro e w5 ⟨rfl, hs, hb⟩
  have h5 := h.below hb
  obtain ⟨hm1, hm2, -⟩ := h.ring.head
  have hrg := h.ring.lt
  have hL : Ints w5 (.slice (some ⟨wx.heap.size, 0, none⟩) L.length L.length) L := sliceI_sits hs L L.length (Nat.le_refl _) (by omega) (fun i hi => by simp [hi])
  refine ⟨_, rfl, h5, hL, ⟨_, hs⟩, ?_⟩
  have hbk := bookints_new kb w.heap.size ks ts (some wx.heap.size, L.length) L w5 h5.book hk hL (by omega) ⟨by show L.length ≤ 100000; omega, fun e => by cases e⟩ (fun g hg => by
    simp only [Option.some.injEq] at hg
    subst hg
    refine ⟨⟨_, hs, by simp⟩, h.low.size, ?_⟩
    rintro ⟨y, hy, hyg⟩
    obtain ⟨i, hi, rfl⟩ := List.getElem_of_mem hy
    obtain ⟨cs, hsy, -⟩ := h.book.blocks i _ wx.heap.size (by simp [hi]) hyg
    have := hsy.lt
    omega) h5.low.size
  refine hbk.mono ?_
  rintro e w6 ⟨rfl, u, hbk6, hm6, hb6, hu6⟩
  have hsz := hb.size
  refine ⟨rfl, u, h5.booked hbk6 hm6 hb6 (fun k hk => ?_) (by omega), ?_⟩
  · have := hu6 k hk
    have h9 : rg < w5.heap.size := h5.ring.lt.2
    omega
  · refine ints_many hL hm6 fun b o _ hb' hS => ?_
    obtain ⟨n', c', hb'⟩ := hb'
    simp only [Value.slice.injEq, Option.some.injEq, Addr.mk.injEq, and_true] at hb'
    obtain ⟨⟨rfl, -⟩, -⟩ := hb'
    rcases hS with ⟨cs', h'⟩ | ⟨cs', h'⟩ <;> exact absurd rfl (hs.apart h' (by decide))
theorem tail_in (f : Nat → Value) (w w3 : World) (rp rg kb ob m : Nat) (L : List Int) (xv : Value) (ks : List (Option Nat × Nat)) (ts : List Value) (a : OpR) (Q : Exit → Act → World → Prop) (hST : StR w w3 rp rg kb ob m L L xv ks ts a) (hks : ks.length < 250)
    (h7 : f 7 = .pointer (some ⟨rp, 0, none⟩)) (h8 : f 8 = .int .i64 (m : Int)) (h9 : f 9 = xv) (h10 : f 10 = .pointer (some ⟨kb, 0, none⟩)) (h12 : f 12 = .pointer (some ⟨ob, 0, none⟩)) (h13 : f 13 = .bool true)
    (hQ : ∀ a' w' x u, Kept (f 2) (.pointer (some ⟨kb, 0, none⟩)) (f 11) xv rp m ob a' → StR w w' rp rg kb ob m L L xv (ks ++ [x]) (ts ++ [u]) a → Q .normal a' w') (k : Nat) (hn : a.n = (k : Int)) (hh : k < L.length) :
    Code.wp Tryz.prog tailL Q ⟨frame f, []⟩ w3 := by
  obtain ⟨hm1, hm2, -⟩ := hST.ring.head
  obtain ⟨Ax, cx, rfl, hx1, hx2, -, -⟩ := hST.row.form
  obtain ⟨o0, o1, o2, o3⟩ := hST.cells
  have hLI : (L.length : Int) ≤ (m : Int) := by omega
  have hmI : (m : Int) ≤ 100000 := by omega
  have e8 : IntKind.i64.wrap ((m : Int) - (L.length : Int)) = (m : Int) - (L.length : Int) := IntWalk.i64_in _ (by omega)
  have g1 : ((L.length : Int) != (L.length : Int)) = false := by simp
  have g2 : ((m : Int) - (L.length : Int) != (m : Int) - (L.length : Int)) = false := by simp
  have hc := peekI_any rp rg m L a.n w3 hST.ring
  rw [hn] at hc o1
  obtain ⟨y, hy⟩ : ∃ y, y = L[k] := ⟨_, rfl⟩
  have hin : inR L (k : Int) = true := by unfold inR; rw [decide_eq_true (by omega), decide_eq_true (by omega)]; rfl
  have hget : getAt L (k : Int) = y := by
    unfold getAt
    rw [if_pos hin, Int.toNat_natCast, List.getD_eq_getElem?_getD, List.getElem?_eq_getElem hh, hy]
    rfl
  rw [hget, hin] at hc
  have d1 : decide (k < L.length) = true := decide_eq_true hh
  have hkI : (k : Int) < (L.length : Int) := by omega
  have hyy : ((y : Int) != (y : Int)) = false := by simp
  have HK := Lib.hid (And.intro hh (And.intro hn hy))
  have HC := Lib.hid hc
  have HST := Lib.hid hST
  have HQ := Lib.hid (And.intro hQ hks)
  clear hc hST hQ hks hm1 hm2 hx1 hin hget hn hy
  unfold frame
  rw [h7, h8, h9, h10, h12, h13]
  clear h7 h8 h9 h10 h12 h13
  conv => arg 2; whnf
  go_wp2_with fail
  refine HC.out.mono ?_
  rintro e w4 ⟨rfl, n4, hw4⟩
  have hb4 : Below w3.heap.size w3 w4 := by rw [hw4]; exact below_drewN (Below.refl _ _) n4
  have h4 := HST.out.below hb4
  obtain ⟨p0, p1, p2, p3⟩ := h4.cells
  rw [HK.out.2.1] at p1
  obtain ⟨_, _, ev, -, -, hcell⟩ := (IRow.ints h4.row).one_
  simp only [Value.slice.injEq, true_and] at ev
  obtain ⟨rfl, rfl⟩ := ev
  obtain ⟨bx, ox, rfl, -, c0⟩ := hcell k HK.out.1
  rw [← HK.out.2.2] at c0
  clear hcell
  have HL := Lib.hid (list_kept h4 HQ.out.2)
  clear hw4 hb4 h4 o0 o1 o2 o3
  go_wp2_with fail
  refine HL.out.mono ?_
  rintro e w5 ⟨ga, rfl, h5, hi5, -, hbk⟩
  have HB := Lib.hid hbk
  obtain ⟨q0, q1, q2, q3⟩ := h5.cells
  clear h5 hi5 hbk
  go_wp2_with fail
  refine HB.out.mono ?_
  rintro e w6 ⟨rfl, u, h6, hi6⟩
  have H6 := Lib.hid h6
  have HSM := Lib.hid (sameInts_yes _ _ L w6 hi6 (IRow.ints h6.row))
  clear h6 hi6
  go_wp2_with fail
  refine HSM.out.mono ?_
  rintro e w7 ⟨rfl, n7, hw7⟩
  have hb7 : Below w6.heap.size w6 w7 := by rw [hw7]; exact below_drewN (Below.refl _ _) n7
  have H7 := Lib.hid (H6.out.below hb7)
  clear hw7 hb7
  go_wp2_with fail
  refine (lenI_any rp rg m L w7 H7.out.ring).mono ?_
  rintro e w8 ⟨rfl, rfl⟩
  go_wp2_with fail
  refine (roomI_any rp rg m L w7 H7.out.ring).mono ?_
  rintro e w8 ⟨rfl, n8, hw8⟩
  have hb8 : Below w7.heap.size w7 w8 := by rw [hw8]; exact below_drewN (Below.refl _ _) n8
  have H8 := Lib.hid (H7.out.below hb8)
  clear hw8 hb8
  go_wp2_with fail
  exact HQ.out.1 _ _ (some ga, L.length) u ⟨rfl, rfl, rfl, rfl, rfl, rfl, rfl, rfl, rfl, rfl⟩ H8.out
theorem tail_low (f : Nat → Value) (w w3 : World) (rp rg kb ob m : Nat) (L : List Int) (xv : Value) (ks : List (Option Nat × Nat)) (ts : List Value) (a : OpR) (Q : Exit → Act → World → Prop) (hST : StR w w3 rp rg kb ob m L L xv ks ts a) (hks : ks.length < 250)
    (h7 : f 7 = .pointer (some ⟨rp, 0, none⟩)) (h8 : f 8 = .int .i64 (m : Int)) (h9 : f 9 = xv) (h10 : f 10 = .pointer (some ⟨kb, 0, none⟩)) (h12 : f 12 = .pointer (some ⟨ob, 0, none⟩)) (h13 : f 13 = .bool true)
    (hQ : ∀ a' w' x u, Kept (f 2) (.pointer (some ⟨kb, 0, none⟩)) (f 11) xv rp m ob a' → StR w w' rp rg kb ob m L L xv (ks ++ [x]) (ts ++ [u]) a → Q .normal a' w') (hn : a.n < 0) :
    Code.wp Tryz.prog tailL Q ⟨frame f, []⟩ w3 := by
  obtain ⟨hm1, hm2, -⟩ := hST.ring.head
  obtain ⟨Ax, cx, rfl, hx1, hx2, -, -⟩ := hST.row.form
  obtain ⟨o0, o1, o2, o3⟩ := hST.cells
  have hLI : (L.length : Int) ≤ (m : Int) := by omega
  have hmI : (m : Int) ≤ 100000 := by omega
  have e8 : IntKind.i64.wrap ((m : Int) - (L.length : Int)) = (m : Int) - (L.length : Int) := IntWalk.i64_in _ (by omega)
  have g1 : ((L.length : Int) != (L.length : Int)) = false := by simp
  have g2 : ((m : Int) - (L.length : Int) != (m : Int) - (L.length : Int)) = false := by simp
  have hc := peekI_any rp rg m L a.n w3 hST.ring
  have hin : inR L a.n = false := by unfold inR; rw [decide_eq_false (by omega)]; rfl
  have hget : getAt L a.n = 0 := by unfold getAt; rw [hin]; rfl
  rw [hget, hin] at hc
  have d0 : decide (0 ≤ a.n) = false := decide_eq_false (by omega)
  have HC := Lib.hid hc
  have HST := Lib.hid hST
  have HQ := Lib.hid (And.intro hQ hks)
  clear hc hST hQ hks hm1 hm2 hx1 hin hget hn
  unfold frame
  rw [h7, h8, h9, h10, h12, h13]
  clear h7 h8 h9 h10 h12 h13
  conv => arg 2; whnf
  go_wp2_with fail
  refine HC.out.mono ?_
  rintro e w4 ⟨rfl, n4, hw4⟩
  have hb4 : Below w3.heap.size w3 w4 := by rw [hw4]; exact below_drewN (Below.refl _ _) n4
  have h4 := HST.out.below hb4
  obtain ⟨p0, p1, p2, p3⟩ := h4.cells
  have HL := Lib.hid (list_kept h4 HQ.out.2)
  clear hw4 hb4 h4 o0 o1 o2 o3
  go_wp2_with fail
  refine HL.out.mono ?_
  rintro e w5 ⟨ga, rfl, h5, hi5, -, hbk⟩
  have HB := Lib.hid hbk
  obtain ⟨q0, q1, q2, q3⟩ := h5.cells
  clear h5 hi5 hbk
  go_wp2_with fail
  refine HB.out.mono ?_
  rintro e w6 ⟨rfl, u, h6, hi6⟩
  have H6 := Lib.hid h6
  have HSM := Lib.hid (sameInts_yes _ _ L w6 hi6 (IRow.ints h6.row))
  clear h6 hi6
  go_wp2_with fail
  refine HSM.out.mono ?_
  rintro e w7 ⟨rfl, n7, hw7⟩
  have hb7 : Below w6.heap.size w6 w7 := by rw [hw7]; exact below_drewN (Below.refl _ _) n7
  have H7 := Lib.hid (H6.out.below hb7)
  clear hw7 hb7
  go_wp2_with fail
  refine (lenI_any rp rg m L w7 H7.out.ring).mono ?_
  rintro e w8 ⟨rfl, rfl⟩
  go_wp2_with fail
  refine (roomI_any rp rg m L w7 H7.out.ring).mono ?_
  rintro e w8 ⟨rfl, n8, hw8⟩
  have hb8 : Below w7.heap.size w7 w8 := by rw [hw8]; exact below_drewN (Below.refl _ _) n8
  have H8 := Lib.hid (H7.out.below hb8)
  clear hw8 hb8
  go_wp2_with fail
  exact HQ.out.1 _ _ (some ga, L.length) u ⟨rfl, rfl, rfl, rfl, rfl, rfl, rfl, rfl, rfl, rfl⟩ H8.out
theorem tail_high (f : Nat → Value) (w w3 : World) (rp rg kb ob m : Nat) (L : List Int) (xv : Value) (ks : List (Option Nat × Nat)) (ts : List Value) (a : OpR) (Q : Exit → Act → World → Prop) (hST : StR w w3 rp rg kb ob m L L xv ks ts a) (hks : ks.length < 250)
    (h7 : f 7 = .pointer (some ⟨rp, 0, none⟩)) (h8 : f 8 = .int .i64 (m : Int)) (h9 : f 9 = xv) (h10 : f 10 = .pointer (some ⟨kb, 0, none⟩)) (h12 : f 12 = .pointer (some ⟨ob, 0, none⟩)) (h13 : f 13 = .bool true)
    (hQ : ∀ a' w' x u, Kept (f 2) (.pointer (some ⟨kb, 0, none⟩)) (f 11) xv rp m ob a' → StR w w' rp rg kb ob m L L xv (ks ++ [x]) (ts ++ [u]) a → Q .normal a' w') (hn : 0 ≤ a.n) (hh : (L.length : Int) ≤ a.n) :
    Code.wp Tryz.prog tailL Q ⟨frame f, []⟩ w3 := by
  obtain ⟨hm1, hm2, -⟩ := hST.ring.head
  obtain ⟨Ax, cx, rfl, hx1, hx2, -, -⟩ := hST.row.form
  obtain ⟨o0, o1, o2, o3⟩ := hST.cells
  have hLI : (L.length : Int) ≤ (m : Int) := by omega
  have hmI : (m : Int) ≤ 100000 := by omega
  have e8 : IntKind.i64.wrap ((m : Int) - (L.length : Int)) = (m : Int) - (L.length : Int) := IntWalk.i64_in _ (by omega)
  have g1 : ((L.length : Int) != (L.length : Int)) = false := by simp
  have g2 : ((m : Int) - (L.length : Int) != (m : Int) - (L.length : Int)) = false := by simp
  have hc := peekI_any rp rg m L a.n w3 hST.ring
  have hin : inR L a.n = false := by unfold inR; rw [decide_eq_false (show ¬ a.n < (L.length : Int) by omega), Bool.and_false]
  have hget : getAt L a.n = 0 := by unfold getAt; rw [hin]; rfl
  rw [hget, hin] at hc
  have d0 : decide (0 ≤ a.n) = true := decide_eq_true hn
  have d1 : decide (a.n < (L.length : Int)) = false := decide_eq_false (by omega)
  have HC := Lib.hid hc
  have HST := Lib.hid hST
  have HQ := Lib.hid (And.intro hQ hks)
  clear hc hST hQ hks hm1 hm2 hx1 hin hget hn hh
  unfold frame
  rw [h7, h8, h9, h10, h12, h13]
  clear h7 h8 h9 h10 h12 h13
  conv => arg 2; whnf
  go_wp2_with fail
  refine HC.out.mono ?_
  rintro e w4 ⟨rfl, n4, hw4⟩
  have hb4 : Below w3.heap.size w3 w4 := by rw [hw4]; exact below_drewN (Below.refl _ _) n4
  have h4 := HST.out.below hb4
  obtain ⟨p0, p1, p2, p3⟩ := h4.cells
  have HL := Lib.hid (list_kept h4 HQ.out.2)
  clear hw4 hb4 h4 o0 o1 o2 o3
  go_wp2_with fail
  refine HL.out.mono ?_
  rintro e w5 ⟨ga, rfl, h5, hi5, -, hbk⟩
  have HB := Lib.hid hbk
  obtain ⟨q0, q1, q2, q3⟩ := h5.cells
  clear h5 hi5 hbk
  go_wp2_with fail
  refine HB.out.mono ?_
  rintro e w6 ⟨rfl, u, h6, hi6⟩
  have H6 := Lib.hid h6
  have HSM := Lib.hid (sameInts_yes _ _ L w6 hi6 (IRow.ints h6.row))
  clear h6 hi6
  go_wp2_with fail
  refine HSM.out.mono ?_
  rintro e w7 ⟨rfl, n7, hw7⟩
  have hb7 : Below w6.heap.size w6 w7 := by rw [hw7]; exact below_drewN (Below.refl _ _) n7
  have H7 := Lib.hid (H6.out.below hb7)
  clear hw7 hb7
  go_wp2_with fail
  refine (lenI_any rp rg m L w7 H7.out.ring).mono ?_
  rintro e w8 ⟨rfl, rfl⟩
  go_wp2_with fail
  refine (roomI_any rp rg m L w7 H7.out.ring).mono ?_
  rintro e w8 ⟨rfl, n8, hw8⟩
  have hb8 : Below w7.heap.size w7 w8 := by rw [hw8]; exact below_drewN (Below.refl _ _) n8
  have H8 := Lib.hid (H7.out.below hb8)
  clear hw8 hb8
  go_wp2_with fail
  exact HQ.out.1 _ _ (some ga, L.length) u ⟨rfl, rfl, rfl, rfl, rfl, rfl, rfl, rfl, rfl, rfl⟩ H8.out
end Go.Proofs.YtoejfhjfphdamaaGreat
