/- The document's own disk (commonsref8), in plain words: all writes, in order. -/
import Derived.Test.YtmlhncheodpbpaaGreatGF
namespace Go.Proofs.YtmlhncheodpbpaaGreat
namespace RdkP
open DskP
set_option linter.unusedSimpArgs false

structure RWr where
  node : Nat
  pos : Nat
  data : List UInt8
  lasts : Bool
structure Rdk where
  room : Nat
  l : List RWr
  off : Bool
  ep : Nat → Nat
  wd : Nat → Nat
  last : Nat
  armed : Bool
  left : Nat
  keep : List Int
structure RGood (R : Rdk) : Prop where
  sec : ∀ x ∈ R.l, x.data.length = 64
  small : R.room ≤ 20000
  many : R.l.length ≤ 1000000
def z64 : List UInt8 := List.replicate 64 0
/-- What a place has by a list of writes, the last one first. -/
def lookR (k : Int) (b : Bool) : List RWr → List UInt8
  | [] => z64
  | x :: t => if ((x.pos : Int) = k) ∧ (b = false ∨ x.lasts = true) then x.data else lookR k b t
def atR (R : Rdk) (k : Int) (b : Bool) : List UInt8 := lookR k b R.l.reverse
def textR (R : Rdk) (pos : Int) : Nat → List UInt8
  | 0 => []
  | k + 1 => textR R pos k ++ atR R (pos + k) false
def keepL (node : Int) (l : List RWr) : List RWr := l.map fun x => if (x.node : Int) = node then { x with lasts := true } else x
def keepR (R : Rdk) (node : Int) : Rdk := { R with l := keepL node R.l }
/-- n writes out of a text. -/
def rowsR (node pos : Nat) (s : List UInt8) : Nat → List RWr
  | 0 => []
  | k + 1 => rowsR node pos s k ++ [⟨node, pos + k, (s.drop (64 * k)).take 64, false⟩]
def putsR (R : Rdk) (node pos : Nat) (s : List UInt8) (n : Nat) : Rdk := { R with l := R.l ++ rowsR node pos s n }
def mayF (R : Rdk) (node : Int) (e : Nat) : Nat := if R.off = true then 14 else if nodeB node = false then 1 else if e = 0 ∨ e ≠ R.ep node.toNat then 34 else 0
/-! Calls of a disk that is not armed. -/
def rbarF (R : Rdk) (node : Int) (e : Nat) : Nat × Rdk := if mayF R node e = 0 then (0, keepR R node) else (mayF R node e, R)
def radmF (R : Rdk) (node : Int) (e : Nat) : Nat × Rdk := if R.off = true then (14, R) else if nodeB node = false then (1, R) else if e ≤ R.last then (8, R) else (0, { R with ep := setAt R.ep node.toNat e, last := e })
def rfenF (R : Rdk) (node : Int) : Nat × Rdk := if R.off = true then (14, R) else if nodeB node = false then (1, R) else (0, { keepR R node with ep := setAt R.ep node.toNat 0 })
def roomB (R : Rdk) (pos : Int) (n : Nat) : Bool := decide (0 ≤ pos) && decide (pos + n ≤ R.room)
def rwriteF (R : Rdk) (node : Int) (e : Nat) (pos : Int) (s : List UInt8) : Nat × Rdk :=
  if R.off = true then (14, R) else if nodeB node = false ∨ s.length % 64 ≠ 0 ∨ s.length / 64 < 1 ∨ 16 < s.length / 64 then (1, R) else if mayF R node e ≠ 0 then (mayF R node e, R) else if roomB R pos (s.length / 64) = false then (30, R)
  else (0, putsR R node.toNat pos.toNat s (s.length / 64))
def rreadF (R : Rdk) (pos n : Int) : List UInt8 × Nat := if R.off = true then ([], 14) else if n < 1 ∨ 400 < n ∨ roomB R pos n.toNat = false then ([], 30) else (textR R pos n.toNat, 0)

theorem rowsR_len (node pos : Nat) (s : List UInt8) : ∀ n, (rowsR node pos s n).length = n
  | 0 => rfl
  | n + 1 => by rw [rowsR, List.length_append, rowsR_len node pos s n]; rfl
theorem rowsR_sec (node pos : Nat) (s : List UInt8) : ∀ n, n * 64 ≤ s.length → ∀ x ∈ rowsR node pos s n, x.data.length = 64
  | 0, _, x, hx => by cases hx
  | n + 1, h, x, hx => by
    rw [rowsR, List.mem_append, List.mem_singleton] at hx
    rcases hx with hx | rfl
    · exact rowsR_sec node pos s n (by omega) x hx
    · show ((s.drop (64 * n)).take 64).length = 64
      rw [List.length_take, List.length_drop]
      omega
theorem lookR_len (k : Int) (b : Bool) : ∀ l : List RWr, (∀ x ∈ l, x.data.length = 64) → (lookR k b l).length = 64
  | [], _ => by simp [lookR, z64]
  | x :: t, h => by
    rw [lookR]
    split
    · exact h x List.mem_cons_self
    · exact lookR_len k b t fun y hy => h y (List.mem_cons_of_mem _ hy)
theorem atR_len {R : Rdk} (h : RGood R) (k : Int) (b : Bool) : (atR R k b).length = 64 := lookR_len k b _ fun x hx => h.sec x (List.mem_reverse.1 hx)
theorem textR_len {R : Rdk} (h : RGood R) (pos : Int) : ∀ n, (textR R pos n).length = n * 64
  | 0 => rfl
  | n + 1 => by rw [textR, List.length_append, textR_len h pos n, atR_len h]; omega
theorem keepL_len (node : Int) (l : List RWr) : (keepL node l).length = l.length := by simp [keepL]
theorem RGood.keepR {R : Rdk} (h : RGood R) (node : Int) : RGood (keepR R node) := by
  refine ⟨fun x hx => ?_, h.small, by show (keepL node R.l).length ≤ _; rw [keepL_len]; exact h.many⟩
  obtain ⟨y, hy, rfl⟩ := List.mem_map.1 (show x ∈ keepL node R.l from hx)
  split
  · exact h.sec y hy
  · exact h.sec y hy
theorem RGood.puts {R : Rdk} (h : RGood R) (node pos : Nat) (s : List UInt8) (n : Nat) (hn : n * 64 ≤ s.length) (hm : R.l.length + n ≤ 1000000) : RGood (putsR R node pos s n) := by
  refine ⟨fun x hx => ?_, h.small, by show (R.l ++ rowsR node pos s n).length ≤ _; rw [List.length_append, rowsR_len]; exact hm⟩
  rcases List.mem_append.1 (show x ∈ R.l ++ rowsR node pos s n from hx) with hx | hx
  · exact h.sec x hx
  · exact rowsR_sec node pos s n hn x hx
end RdkP
end Go.Proofs.YtmlhncheodpbpaaGreat
