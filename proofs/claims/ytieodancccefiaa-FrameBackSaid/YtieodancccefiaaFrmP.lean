/- A frame's bytes, and back, in plain words. -/
import Derived.Test.YtieodancccefiaaGA
import Derived.Test.YtieodancccefiaaGC
import Derived.Test.YtieodancccefiaaGE
namespace Go.Proofs.Ytieodancccefiaa
open Go Go.RowKit
set_option linter.unusedSimpArgs false
set_option maxRecDepth 100000

def badFr (x : Frm) : Bool := decide (x.f < 0) || decide (x.t < 0) || decide (x.m < 0) || decide (x.y < 0) || decide (x.s < 0) || decide (x.a < 0) || decide (65535 < x.f) || decide (65535 < x.t)
structure GoodFr (x : Frm) : Prop where
  f0 : 0 ≤ x.f
  t0 : 0 ≤ x.t
  m0 : 0 ≤ x.m
  y0 : 0 ≤ x.y
  s0 : 0 ≤ x.s
  a0 : 0 ≤ x.a
  f1 : x.f ≤ 65535
  t1 : x.t ≤ 65535
theorem goodFr_of {x : Frm} (h : badFr x = false) : GoodFr x := by
  unfold badFr at h
  simp only [Bool.or_eq_false_iff, decide_eq_false_iff_not] at h
  obtain ⟨⟨⟨⟨⟨⟨⟨h1, h2⟩, h3⟩, h4⟩, h5⟩, h6⟩, h7⟩, h8⟩ := h
  exact ⟨by omega, by omega, by omega, by omega, by omega, by omega, by omega, by omega⟩
theorem badFr_of {x : Frm} (h : badFr x = true) : ¬ GoodFr x := by
  intro g
  unfold badFr at h
  simp only [Bool.or_eq_true, decide_eq_true_eq] at h
  have := g.f0; have := g.t0; have := g.m0; have := g.y0; have := g.s0; have := g.a0; have := g.f1; have := g.t1
  omega
def fb (b : Bool) : Nat := if b then 1 else 0
/-- The bytes of a frame, without the seal: all of its numbers up to the n-th. -/
def frmN (x : Frm) : Nat → List UInt8
  | 0 => []
  | 1 => leb 2 (unsig x.f)
  | 2 => leb 2 (unsig x.f) ++ leb 2 (unsig x.t)
  | 3 => leb 2 (unsig x.f) ++ leb 2 (unsig x.t) ++ leb 8 (unsig x.m)
  | 4 => leb 2 (unsig x.f) ++ leb 2 (unsig x.t) ++ leb 8 (unsig x.m) ++ leb 8 (unsig x.y)
  | 5 => leb 2 (unsig x.f) ++ leb 2 (unsig x.t) ++ leb 8 (unsig x.m) ++ leb 8 (unsig x.y) ++ leb 8 (unsig x.s)
  | 6 => leb 2 (unsig x.f) ++ leb 2 (unsig x.t) ++ leb 8 (unsig x.m) ++ leb 8 (unsig x.y) ++ leb 8 (unsig x.s) ++ leb 8 (unsig x.a)
  | 7 => leb 2 (unsig x.f) ++ leb 2 (unsig x.t) ++ leb 8 (unsig x.m) ++ leb 8 (unsig x.y) ++ leb 8 (unsig x.s) ++ leb 8 (unsig x.a) ++ leb 1 (if x.h then 1 else 0)
  | _ => leb 2 (unsig x.f) ++ leb 2 (unsig x.t) ++ leb 8 (unsig x.m) ++ leb 8 (unsig x.y) ++ leb 8 (unsig x.s) ++ leb 8 (unsig x.a) ++ leb 1 (if x.h then 1 else 0) ++ leb 2 x.d.length ++ x.d
def frmL (x : Frm) : List UInt8 := frmN x 8
theorem frmN_len (x : Frm) : (frmN x 0).length = 0 ∧ (frmN x 1).length = 2 ∧ (frmN x 2).length = 4 ∧ (frmN x 3).length = 12 ∧ (frmN x 4).length = 20 ∧ (frmN x 5).length = 28 ∧ (frmN x 6).length = 36 ∧ (frmN x 7).length = 37 := by
  simp [frmN, leb_length]
theorem frmL_len (x : Frm) : (frmL x).length = 39 + x.d.length := by
  simp [frmL, frmN, leb_length]; omega
def frmS (x : Frm) : List UInt8 := sum4 (frmL x) ++ frmL x
theorem frmS_len (x : Frm) : (frmS x).length = 43 + x.d.length := by
  rw [frmS, List.length_append, sum4_length, frmL_len]; omega
/-- Put. -/
def fputF (x : Frm) : List UInt8 × Int := if badFr x then ([], 1) else if 3000 < x.d.length then ([], 2) else (frmS x, 0)
/-- What a reader makes of some bytes. -/
def rdW (r : List UInt8 × Int) : Nat × List UInt8 × Int := rnum 8 r.1 r.2
structure Rds where
  f : Nat
  t : Nat
  m : Nat
  y : Nat
  s : Nat
  a : Nat
  h : Bool
  d : List UInt8
  r : List UInt8
  e : Int
def parF (b : List UInt8) : Rds :=
  let q1 := rnum 2 b 0
  let q2 := rnum 2 q1.2.1 q1.2.2
  let q3 := rnum 8 q2.2.1 q2.2.2
  let q4 := rnum 8 q3.2.1 q3.2.2
  let q5 := rnum 8 q4.2.1 q4.2.2
  let q6 := rnum 8 q5.2.1 q5.2.2
  let q7 := rflag q6.2.1 q6.2.2
  let q8 := rtext 3000 q7.2.1 q7.2.2
  ⟨q1.1, q2.1, q3.1, q4.1, q5.1, q6.1, q7.1, q8.1, q8.2.1, q8.2.2⟩
def frmOf (r : Rds) : Frm := ⟨r.f, r.t, wrap64 r.m, wrap64 r.y, wrap64 r.s, wrap64 r.a, r.d, r.h⟩
/-- Get, of what stands behind the seal. -/
def fgetT (b t : List UInt8) : Frm × Int :=
  if (parF t).e ≠ 0 then (zFrm, (parF t).e) else if fputF (frmOf (parF t)) = (b, 0) then (frmOf (parF t), 0) else (zFrm, 4)
def fgetF (b : List UInt8) : Frm × Int :=
  if opnE (str b) ≠ 0 then (zFrm, opnE (str b)) else fgetT b (opnS (str b)).data.toList
theorem unsig_nat {x : Int} (h0 : 0 ≤ x) (h1 : x ≤ 9223372036854775807) : unsig x = x.toNat := by
  unfold unsig; omega
theorem parF_put {x : Frm} (hg : GoodFr x) (hi : FrmIn x) (hd : x.d.length ≤ 3000) : ∃ r : Rds, parF (frmL x) = r ∧ frmOf r = x ∧ r.r = [] ∧ r.e = 0 := by
  refine ⟨_, rfl, ?_⟩
  obtain ⟨f, t, m, y, s, a, d, h⟩ := x
  obtain ⟨hf0, ht0, hm0, hy0, hs0, ha0, hf1, ht1⟩ := hg
  obtain ⟨if_, it, im, iy, is, ia⟩ := hi
  simp only at *
  have e := rtext_leb d [] 3000 (by omega) (by omega)
  rw [List.append_nil] at e
  have e1 : ∀ r, rnum 2 (leb 2 (unsig f) ++ r) 0 = (unsig f, r, 0) := fun r => rnum_two_leb _ r (by rw [unsig_nat hf0 if_.2]; omega)
  have e2 : ∀ r, rnum 2 (leb 2 (unsig t) ++ r) 0 = (unsig t, r, 0) := fun r => rnum_two_leb _ r (by rw [unsig_nat ht0 it.2]; omega)
  have hp : parF (frmL ⟨f, t, m, y, s, a, d, h⟩) = ⟨unsig f, unsig t, unsig m, unsig y, unsig s, unsig a, h, d, [], 0⟩ := by
    simp only [parF, frmL, frmN, List.append_assoc, e1, e2, rint_leb, rflag_leb]
    rw [e]
  rw [hp]
  refine ⟨?_, rfl, rfl⟩
  simp only [frmOf, wrap_unsig _ im.1 im.2, wrap_unsig _ iy.1 iy.2, wrap_unsig _ is.1 is.2, wrap_unsig _ ia.1 ia.2]
  rw [unsig_nat hf0 if_.2, unsig_nat ht0 it.2, Int.toNat_of_nonneg hf0, Int.toNat_of_nonneg ht0]
theorem opn_frm (x : Frm) : opnS (str (frmS x)) = str (frmL x) ∧ opnE (str (frmS x)) = 0 := by
  have := opn_str (sum4 (frmL x)) (frmL x) (sum4_length _)
  rw [if_pos rfl, if_pos rfl] at this
  exact this
theorem fput_ok {x : Frm} (hb : badFr x = false) (hd : ¬ 3000 < x.d.length) : fputF x = (frmS x, 0) := by
  rw [fputF, hb, if_neg (by simp), if_neg hd]
theorem fget_put {x : Frm} (hb : badFr x = false) (hi : FrmIn x) (hd : ¬ 3000 < x.d.length) : fgetF (frmS x) = (x, 0) := by
  obtain ⟨r, h1, h2, h3, h4⟩ := parF_put (goodFr_of hb) hi (by omega)
  rw [fgetF, (opn_frm x).1, (opn_frm x).2, if_neg (by simp), str_list, fgetT, h1, h4, if_neg (by simp), h2, if_pos (fput_ok hb hd)]
theorem rnum_in (n : Int) (s : List UInt8) (e : Int) : ((rnum n s e).1 : Int) < 18446744073709551616 := by
  have := rnum_lt n s e
  omega
theorem frmOf_in (b : List UInt8) : FrmIn (frmOf (parF b)) := by
  have h1 := rnum_two b 0
  have h2 := rnum_two (rnum 2 b 0).2.1 (rnum 2 b 0).2.2
  have w : ∀ n : Nat, I64 (wrap64 (n : Int)) := fun n => by unfold wrap64 I64; omega
  exact ⟨by show I64 ((rnum 2 b 0).1 : Int); unfold I64; omega, by show I64 ((rnum 2 (rnum 2 b 0).2.1 (rnum 2 b 0).2.2).1 : Int); unfold I64; omega, w _, w _, w _, w _⟩
/-- Bytes that are laid by Put leave none behind. -/
theorem put_none {b t : List UInt8} (h : fputF (frmOf (parF t)) = (b, 0)) (hb : b = sum4 t ++ t) : (parF t).r = [] := by
  have hin := frmOf_in t
  unfold fputF at h
  by_cases h1 : badFr (frmOf (parF t)) = true
  · rw [if_pos h1] at h; simp at h
  · rw [if_neg h1] at h
    by_cases h2 : 3000 < (frmOf (parF t)).d.length
    · rw [if_pos h2] at h; simp at h
    · rw [if_neg h2] at h
      have h3 : frmS (frmOf (parF t)) = sum4 t ++ t := (congrArg Prod.fst h).trans hb
      have h4 : frmL (frmOf (parF t)) = t := (List.append_inj h3 (by rw [sum4_length, sum4_length])).2
      obtain ⟨r, q1, q2, q3, q4⟩ := parF_put (goodFr_of (by simpa using h1)) hin (by omega)
      rw [h4] at q1
      rw [q1]
      exact q3
end Go.Proofs.Ytieodancccefiaa
