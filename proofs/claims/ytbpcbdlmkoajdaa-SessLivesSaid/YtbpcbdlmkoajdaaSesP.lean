/- A session, in plain words. -/
import Derived.Test.YtbpcbdlmkoajdaaSesT
namespace Go.Proofs.Ytbpcbdlmkoajdaa
open Go Go.RowKit
set_option linter.unusedSimpArgs false

/-- A session: its own end, its peer, its life, the peer's; what waits; up to which Seq it was acked, and heard; what was heard ahead; does it owe an answer? -/
structure Ses where
  p : Int
  q : Int
  m : Int
  y : Int
  W : List Msg
  k : Nat
  n : Nat
  A : Int → Option (List UInt8)
  o : Bool
namespace SesP
def newS (p q m : Int) : Ses := ⟨p, q, m, 0, [], 0, 0, fun _ => none, false⟩
/-- What holds of each session: nothing heard ahead is far ahead; a message waits for four ticks at most. -/
structure Near (c : Nat) (s : Ses) : Prop where
  A : ∀ i d, s.A i = some d → (s.n : Int) < i ∧ i ≤ (s.n : Int) + 65
  l : ∀ x ∈ s.W, x.l ≤ 4
  k : s.k ≤ 100 * c
  n : s.n ≤ 100 * c
  c : c ≤ 100000000
theorem near_new (p q m : Int) : Near 0 (newS p q m) := ⟨fun i d h => by simp [newS] at h, fun x h => by simp [newS] at h, Nat.le_refl _, Nat.le_refl _, by omega⟩
theorem Near.more {c c' : Nat} {s : Ses} (h : Near c s) (hc : c ≤ c') (h9 : c' ≤ 100000000) : Near c' s := ⟨h.A, h.l, by have := h.k; omega, by have := h.n; omega, h9⟩
/-- A frame without a message. -/
def bareF (s : Ses) : Frm := ⟨s.p, s.q, s.m, s.y, 0, s.n, [], false⟩
def msgF (s : Ses) (i : Nat) (d : List UInt8) : Frm := ⟨s.p, s.q, s.m, s.y, i, s.n, d, true⟩
def sendS (s : Ses) (d : List UInt8) : Ses := if 3000 < d.length then s else if 64 ≤ s.W.length then s else { s with W := s.W ++ [⟨d, 0⟩] }
def sendE (s : Ses) (d : List UInt8) : Int := if 3000 < d.length then 2 else if 64 ≤ s.W.length then 10 else 0
/-- The frames of the messages that are to go now, the first one of the list with the Seq i. -/
def outL (s : Ses) : Nat → List Msg → List Frm
  | _, [] => []
  | i, x :: r => if x.l = 0 then msgF s i x.d :: outL s (i + 1) r else outL s (i + 1) r
def sent (x : Msg) : Msg := if x.l = 0 then ⟨x.d, 4⟩ else x
def outF (s : Ses) : List Frm := if s.o = true ∧ outL s (s.k + 1) s.W = [] then [bareF s] else outL s (s.k + 1) s.W
def outS (s : Ses) : Ses := { s with W := s.W.map sent, o := false }
def older (x : Msg) : Msg := ⟨x.d, x.l - 1⟩
def tickW (s : Ses) : Ses := { s with W := s.W.map older }
def tickF (s : Ses) : List Frm := outF (tickW s)
def tickS (s : Ses) : Ses := outS (tickW s)
def now (x : Msg) : Msg := ⟨x.d, 0⟩
def isFor (s : Ses) (f : Frm) : Bool := decide (f.f = s.q ∧ f.t = s.p ∧ 1 ≤ f.m ∧ s.y ≤ f.m ∧ f.y ≤ s.m)
def meetS (s : Ses) (life : Int) : Ses := { s with W := (if 0 < s.y then [] else s.W).map now, y := life, k := 0, n := 0, A := fun _ => none }
def freeS (s : Ses) (a : Int) : Ses := if (s.k : Int) < a then { s with W := s.W.drop (a - s.k).toNat, k := s.k + min (a - s.k).toNat s.W.length } else s
def hearS (s : Ses) (q : Int) (d : List UInt8) : Ses :=
  if q < (s.n : Int) + 1 ∨ 64 < q - ((s.n : Int) + 1) ∨ (s.A q).isSome = true then s else { s with A := fun i => if i = q then some d else s.A i }
/-- The messages that are next, out of what was heard ahead. -/
def toldL (A : Int → Option (List UInt8)) : Nat → Nat → List (List UInt8)
  | 0, _ => []
  | f + 1, n => match A (n + 1 : Nat) with
    | none => []
    | some d => d :: toldL A f (n + 1)
def toldS (s : Ses) : Ses := { s with n := s.n + (toldL s.A 66 s.n).length, A := fun i => if i ≤ (s.n + (toldL s.A 66 s.n).length : Nat) then none else s.A i }
def metS (s : Ses) (f : Frm) : Ses := if s.y < f.m then meetS s f.m else s
def takeS (s : Ses) (f : Frm) : Ses :=
  if isFor s f = false then s else
  if f.y ≠ (metS s f).m then { metS s f with o := true } else
  if f.h = false then freeS (metS s f) f.a else
  toldS (hearS { freeS (metS s f) f.a with o := true } f.s f.d)
def takeL (s : Ses) (f : Frm) : List (List UInt8) :=
  if isFor s f = false then [] else
  if f.y ≠ (metS s f).m then [] else
  if f.h = false then [] else
  toldL (hearS { freeS (metS s f) f.a with o := true } f.s f.d).A 66 (hearS { freeS (metS s f) f.a with o := true } f.s f.d).n
theorem toldL_len (A : Int → Option (List UInt8)) : ∀ f n, (toldL A f n).length ≤ f
  | 0, _ => Nat.le_refl _
  | f + 1, n => by
    unfold toldL
    cases A (n + 1 : Nat) with
    | none => simp
    | some d => simp only [List.length_cons]; have := toldL_len A f (n + 1); omega
theorem toldL_at (A : Int → Option (List UInt8)) : ∀ f n j (h : j < (toldL A f n).length), A ((n : Int) + (j : Int) + 1) = some (toldL A f n)[j]
  | 0, _, _, h => by simp [toldL] at h
  | f + 1, n, j, h => by
    cases e : A (n + 1 : Nat) with
    | none => unfold toldL at h; rw [e] at h; simp at h
    | some d =>
      have hh : toldL A (f + 1) n = d :: toldL A f (n + 1) := by rw [toldL, e]
      cases j with
      | zero => simp only [hh, List.getElem_cons_zero]; rw [← e]; congr 1
      | succ j =>
        rw [hh] at h
        have := toldL_at A f (n + 1) j (by simpa using h)
        simp only [hh, List.getElem_cons_succ]
        rw [← this]
        congr 1
        omega
theorem toldL_end (A : Int → Option (List UInt8)) : ∀ f n, (toldL A f n).length < f → A ((n : Int) + ((toldL A f n).length : Int) + 1) = none
  | 0, _, h => by simp at h
  | f + 1, n, h => by
    cases e : A (n + 1 : Nat) with
    | none =>
      have hh : toldL A (f + 1) n = [] := by rw [toldL, e]
      rw [hh, ← e]
      congr 1
    | some d =>
      have hh : toldL A (f + 1) n = d :: toldL A f (n + 1) := by rw [toldL, e]
      rw [hh] at h ⊢
      have := toldL_end A f (n + 1) (by simpa using h)
      rw [← this]
      congr 1
      simp only [List.length_cons]
      omega
theorem told_few {c : Nat} {s : Ses} (h : Near c s) : (toldL s.A 66 s.n).length ≤ 65 := by
  have h1 := toldL_len s.A 66 s.n
  rcases Nat.lt_or_ge 65 (toldL s.A 66 s.n).length with h2 | h2
  · have h3 := toldL_at s.A 66 s.n 65 h2
    have := h.A _ _ h3
    omega
  · exact h2
end SesP
end Go.Proofs.Ytbpcbdlmkoajdaa
