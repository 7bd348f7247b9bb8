/- Two sessions by turns, in plain words: what SessRoom's rounds come to. -/
import Derived.Test.YtbpcbdlmkoajdaaSesP
namespace Go.Proofs.Ytbpcbdlmkoajdaa
open Go Go.RowKit
set_option linter.unusedSimpArgs false
namespace SesP

def takesS (s : Ses) : List Frm → Ses
  | [] => s
  | f :: r => takesS (takeS s f) r
def takesL (s : Ses) : List Frm → List (List UInt8)
  | [] => []
  | f :: r => takeL s f ++ takesL (takeS s f) r
theorem takesS_snoc (s : Ses) (l : List Frm) (f : Frm) : takesS s (l ++ [f]) = takeS (takesS s l) f := by
  induction l generalizing s with
  | nil => rfl
  | cons x r ih => exact ih _
theorem takesL_snoc (s : Ses) (l : List Frm) (f : Frm) : takesL s (l ++ [f]) = takesL s l ++ takeL (takesS s l) f := by
  induction l generalizing s with
  | nil => simp [takesL, takesS]
  | cons x r ih => simp only [List.cons_append, takesL, ih, List.append_assoc, takesS]

/-- One round of SessRoom: a tick of the one, what the other one takes and answers. -/
structure Two where
  a : Ses
  b : Ses
  got : List (List UInt8)
def roundR (t : Two) : Two :=
  ⟨takesS (tickS t.a) (outF (takesS t.b (tickF t.a))), outS (takesS t.b (tickF t.a)), t.got ++ takesL t.b (tickF t.a)⟩
def roundsR (t : Two) : Nat → Two
  | 0 => t
  | n + 1 => roundR (roundsR t n)

/-- An end at rest: nothing waits, nothing is owed. -/
theorem round_rest (t : Two) (ha : t.a.W = []) (hao : t.a.o = false) (hb : t.b.W = []) (hbo : t.b.o = false) : roundR t = t := by
  obtain ⟨⟨p, q, m, y, W, k, n, A, o⟩, ⟨p', q', m', y', W', k', n', A', o'⟩, g⟩ := t
  simp only at ha hao hb hbo
  subst ha hao hb hbo
  simp [roundR, tickF, tickS, tickW, outF, outS, outL, takesS, takesL]

def wsOf (j : Nat) (d : List (List UInt8)) : List Msg := d.map fun x => ⟨x, j⟩
theorem sends_are (l : List (List UInt8)) (h : ∀ d ∈ l, d.length ≤ 3000) (p q m : Int) (i : Nat) (hi : i ≤ l.length) :
    (l.take i).foldl sendS (newS p q m) = { newS p q m with W := wsOf 0 ((l.take i).take 64) } := by
  induction i with
  | zero => simp [newS, wsOf]
  | succ i ih =>
    have hi' : i < l.length := by omega
    rw [List.take_succ_eq_append_getElem hi', List.foldl_append, ih (by omega)]
    have h3 := h l[i] (List.getElem_mem hi')
    have hn : (newS p q m).W = [] := rfl
    simp only [List.foldl_cons, List.foldl_nil, sendS, if_neg (show ¬ 3000 < l[i].length by omega)]
    have hl : (l.take i).length = i := by rw [List.length_take]; omega
    have hw : (wsOf 0 ((l.take i).take 64)).length = min 64 i := by simp [wsOf, hl]; omega
    rw [hw]
    by_cases h6 : 64 ≤ i
    · rw [if_pos (by omega), List.take_append_of_le_length (by omega)]
    · rw [if_neg (by omega), List.take_of_length_le (l := l.take i ++ [l[i]]) (by simp; omega), List.take_of_length_le (l := l.take i) (by omega)]
      unfold wsOf
      rw [List.map_append]
      rfl
theorem sendE_is (l : List (List UInt8)) (h : ∀ d ∈ l, d.length ≤ 3000) (p q m : Int) (i : Nat) (hi : i < l.length) :
    sendE ((l.take i).foldl sendS (newS p q m)) l[i] = if 64 ≤ i then 10 else 0 := by
  rw [sends_are l h p q m i (by omega)]
  have h3 := h l[i] (List.getElem_mem hi)
  have hl : (l.take i).length = i := by rw [List.length_take]; omega
  have hw : (wsOf 0 ((l.take i).take 64)).length = min 64 i := by simp [wsOf, hl]; omega
  simp only [sendE, if_neg (show ¬ 3000 < l[i].length by omega), hw]
  by_cases h6 : 64 ≤ i
  · rw [if_pos (by omega), if_pos h6]
  · rw [if_neg (by omega), if_neg h6]

def endA (y : Int) (j : Nat) (d : List (List UInt8)) (k : Nat) : Ses := ⟨1, 2, 1, y, wsOf j d, k, 0, fun _ => none, false⟩
def endB (y : Int) (n : Nat) (o : Bool) : Ses := ⟨2, 1, 1, y, [], 0, n, fun _ => none, o⟩
def frR (y : Int) : Nat → List (List UInt8) → List Frm
  | _, [] => []
  | i, d :: r => ⟨1, 2, 1, y, (i + 1 : Nat), 0, d, true⟩ :: frR y (i + 1) r
theorem tick_frames (y : Int) (d : List (List UInt8)) : tickF (endA y 0 d 0) = frR y 0 d := by
  have h : ∀ i (l : List (List UInt8)), outL (tickW (endA y 0 d 0)) (i + 1) (wsOf 0 l) = frR y i l := by
    intro i l
    induction l generalizing i with
    | nil => rfl
    | cons x r ih =>
      show outL _ (i + 1) (⟨x, 0⟩ :: wsOf 0 r) = _
      simp only [outL, if_pos, frR]
      rw [ih (i + 1)]
      rfl
  have hm : (wsOf 0 d).map older = wsOf 0 d := by simp [wsOf, older]
  have hw : (tickW (endA y 0 d 0)).W = wsOf 0 d := hm
  have hk : (tickW (endA y 0 d 0)).k = 0 := rfl
  have ho : (tickW (endA y 0 d 0)).o = false := rfl
  simp only [tickF, outF, hw, hk, ho, h 0 d]
  simp
theorem tick_state (y : Int) (d : List (List UInt8)) : tickS (endA y 0 d 0) = endA y 4 d 0 := by
  simp [tickS, tickW, outS, endA, wsOf, older, sent]

theorem take_first (i : Nat) (d : List UInt8) : takeS (endB 0 0 false) ⟨1, 2, 1, 0, (i + 1 : Nat), 0, d, true⟩ = endB 1 0 true ∧ takeL (endB 0 0 false) ⟨1, 2, 1, 0, (i + 1 : Nat), 0, d, true⟩ = [] := by
  constructor
  · simp [takeS, endB, isFor, metS, meetS]
  · simp [takeL, endB, isFor, metS, meetS]
theorem take_old (i : Nat) (d : List UInt8) : takeS (endB 1 0 true) ⟨1, 2, 1, 0, (i + 1 : Nat), 0, d, true⟩ = endB 1 0 true ∧ takeL (endB 1 0 true) ⟨1, 2, 1, 0, (i + 1 : Nat), 0, d, true⟩ = [] := by
  constructor
  · simp [takeS, endB, isFor, metS]
  · simp [takeL, endB, isFor, metS]
theorem takes_old (l : List (List UInt8)) (i : Nat) : takesS (endB 1 0 true) (frR 0 i l) = endB 1 0 true ∧ takesL (endB 1 0 true) (frR 0 i l) = [] := by
  induction l generalizing i with
  | nil => exact ⟨rfl, rfl⟩
  | cons x r ih =>
    simp only [frR, takesS, takesL, (take_old i x).1, (take_old i x).2, List.nil_append]
    exact ih (i + 1)
theorem takes_first (l : List (List UInt8)) (h : l ≠ []) : takesS (endB 0 0 false) (frR 0 0 l) = endB 1 0 true ∧ takesL (endB 0 0 false) (frR 0 0 l) = [] := by
  cases l with
  | nil => exact absurd rfl h
  | cons x r =>
    simp only [frR, takesS, takesL, (take_first 0 x).1, (take_first 0 x).2, List.nil_append]
    exact takes_old r 1
theorem hear_next (n : Nat) (o : Bool) (d : List UInt8) : takeS (endB 1 n o) ⟨1, 2, 1, 1, (n + 1 : Nat), 0, d, true⟩ = endB 1 (n + 1) true ∧ takeL (endB 1 n o) ⟨1, 2, 1, 1, (n + 1 : Nat), 0, d, true⟩ = [d] := by
  have ht : toldL (fun i : Int => if i = ((n + 1 : Nat) : Int) then some d else none) 66 n = [d] := by
    have h2 : toldL (fun i : Int => if i = ((n + 1 : Nat) : Int) then some d else none) 65 (n + 1) = [] := by
      show toldL _ (64 + 1) (n + 1) = []
      unfold toldL
      simp only
      rw [if_neg (by omega)]
    show toldL _ (65 + 1) n = [d]
    rw [toldL]
    simp only [if_pos]
    rw [h2]
  have hh : hearS { endB 1 n o with o := true } ((n + 1 : Nat) : Int) d = { endB 1 n true with A := fun i : Int => if i = ((n + 1 : Nat) : Int) then some d else none } := by
    unfold hearS endB
    rw [if_neg (by simp)]
  have hf : freeS (metS (endB 1 n o) ⟨1, 2, 1, 1, (n + 1 : Nat), 0, d, true⟩) 0 = endB 1 n o := by
    simp [freeS, metS, endB]
  have hi : isFor (endB 1 n o) ⟨1, 2, 1, 1, (n + 1 : Nat), 0, d, true⟩ = true := by simp [isFor, endB]
  have hm : (metS (endB 1 n o) ⟨1, 2, 1, 1, (n + 1 : Nat), 0, d, true⟩).m = 1 := by simp [metS, endB]
  constructor
  · unfold takeS
    rw [if_neg (by rw [hi]; decide), if_neg (by rw [hm]; simp), if_neg (by simp)]
    simp only
    rw [hf, hh]
    simp only [toldS, endB, ht, List.length_singleton]
    congr 1
    funext i
    by_cases h1 : i ≤ ((n + 1 : Nat) : Int)
    · rw [if_pos h1]
    · rw [if_neg h1, if_neg (by omega)]
  · unfold takeL
    rw [if_neg (by rw [hi]; decide), if_neg (by rw [hm]; simp), if_neg (by simp)]
    simp only
    rw [hf, hh]
    exact ht
theorem takes_next (l : List (List UInt8)) (n : Nat) (o : Bool) (h : l ≠ []) : takesS (endB 1 n o) (frR 1 n l) = endB 1 (n + l.length) true ∧ takesL (endB 1 n o) (frR 1 n l) = l := by
  induction l generalizing n o with
  | nil => exact absurd rfl h
  | cons x r ih =>
    simp only [frR, takesS, takesL, (hear_next n o x).1, (hear_next n o x).2]
    cases r with
    | nil => simp [frR, takesS, takesL]
    | cons x' r' =>
      have := ih (n + 1) true (by simp)
      rw [this.1, this.2]
      refine ⟨?_, rfl⟩
      congr 1
      simp only [List.length_cons]
      omega
theorem round_first (d : List (List UInt8)) (h : d ≠ []) : roundR ⟨endA 0 0 d 0, endB 0 0 false, []⟩ = ⟨endA 1 0 d 0, endB 1 0 false, []⟩ := by
  have ho : outF (endB 1 0 true) = [⟨2, 1, 1, 1, 0, 0, [], false⟩] := by simp [outF, endB, outL, bareF]
  have hs : outS (endB 1 0 true) = endB 1 0 false := by simp [outS, endB]
  have ht : takeS (endA 0 4 d 0) ⟨2, 1, 1, 1, 0, 0, [], false⟩ = endA 1 0 d 0 := by
    simp [takeS, endA, isFor, metS, meetS, freeS, wsOf, now]
  simp only [roundR, tick_frames, tick_state, (takes_first d h).1, (takes_first d h).2, ho, hs, takesS, ht, List.append_nil]
theorem round_second (d : List (List UInt8)) (h : d ≠ []) : roundR ⟨endA 1 0 d 0, endB 1 0 false, []⟩ = ⟨endA 1 0 [] d.length, endB 1 d.length false, d⟩ := by
  have ho : outF (endB 1 (0 + d.length) true) = [⟨2, 1, 1, 1, 0, (d.length : Nat), [], false⟩] := by simp [outF, endB, outL, bareF]
  have hs : outS (endB 1 (0 + d.length) true) = endB 1 d.length false := by simp [outS, endB]
  have hp : 0 < d.length := List.length_pos_iff.mpr h
  have ht : takeS (endA 1 4 d 0) ⟨2, 1, 1, 1, 0, (d.length : Nat), [], false⟩ = endA 1 0 [] d.length := by
    simp [takeS, endA, isFor, metS, freeS, wsOf, hp]
  simp only [roundR, tick_frames, tick_state, (takes_next d 0 false h).1, (takes_next d 0 false h).2, ho, hs, takesS, ht, List.nil_append]
theorem rounds_rest (t : Two) (ha : t.a.W = []) (hao : t.a.o = false) (hb : t.b.W = []) (hbo : t.b.o = false) (n : Nat) : roundsR t n = t := by
  induction n with
  | zero => rfl
  | succ n ih => rw [roundsR, ih, round_rest t ha hao hb hbo]
theorem roundsR_add (t : Two) (m n : Nat) : roundsR t (m + n) = roundsR (roundsR t m) n := by
  induction n with
  | zero => rfl
  | succ n ih => rw [← Nat.add_assoc, roundsR, ih]; rfl
/-- What SessRoom's twelve rounds come to. -/
theorem room_end (d : List (List UInt8)) : (roundsR ⟨endA 0 0 d 0, endB 0 0 false, []⟩ 12).got = d ∧ (roundsR ⟨endA 0 0 d 0, endB 0 0 false, []⟩ 12).a.W = [] := by
  cases d with
  | nil => rw [rounds_rest _ rfl rfl rfl rfl]; exact ⟨rfl, rfl⟩
  | cons x r =>
    rw [show 12 = 2 + 10 from rfl, roundsR_add]
    have h2 : roundsR ⟨endA 0 0 (x :: r) 0, endB 0 0 false, []⟩ 2 = ⟨endA 1 0 [] (x :: r).length, endB 1 (x :: r).length false, x :: r⟩ := by
      simp only [roundsR]
      rw [round_first _ (by simp), round_second _ (by simp)]
    rw [h2, rounds_rest _ rfl rfl rfl rfl]
    exact ⟨rfl, rfl⟩
end SesP
end Go.Proofs.Ytbpcbdlmkoajdaa
