/- What a net makes of packets, in plain words. -/
import Derived.Test.YtkfbljbhdjnggaaNetP
namespace Go.Proofs.Ytkfbljbhdjnggaa
open Go Go.RowKit
set_option linter.unusedSimpArgs false

namespace NetP
def endsP (a b : Int) : Int × Int := (min a b, max a b)
/-- Is it lost: is there no room, or are its ends cut? -/
def lostB (C : List (Int × Int)) (L : List Pk) (x : Pk) : Bool := decide (900 ≤ L.length) || decide (endsP x.f x.t ∈ C)
def send1 (C : List (Int × Int)) (R : List Pk × Nat) (x : Pk) : List Pk × Nat := if lostB C R.1 x = true then R else (R.1 ++ [x], R.2 + 1)
def sendF (C : List (Int × Int)) (L : List Pk) (l : List Pk) : List Pk × Nat := l.foldl (send1 C) (L, 0)
def cutF (C : List (Int × Int)) (a b : Int) (on : Bool) : List (Int × Int) := C.filter (fun x => decide (x ≠ endsP a b)) ++ if on = true then [endsP a b] else []
def swapF (L : List Pk) (k j : Nat) : List Pk := (L.set k (L.getD j default)).set j (L.getD k default)
theorem send1_len (C : List (Int × Int)) (R : List Pk × Nat) (x : Pk) (h : R.1.length ≤ 900) : (send1 C R x).1.length ≤ 900 := by
  unfold send1
  split
  · exact h
  · rename_i hl
    unfold lostB at hl
    simp only [Bool.or_eq_true, decide_eq_true_eq, not_or] at hl
    rw [List.length_append]
    show R.1.length + 1 ≤ 900
    omega
theorem sendF_take (C : List (Int × Int)) (L l : List Pk) (k : Nat) (hk : k < l.length) : sendF C L (l.take (k + 1)) = send1 C (sendF C L (l.take k)) l[k] := by
  unfold sendF
  rw [List.take_succ_eq_append_getElem hk, List.foldl_append]
  rfl
theorem sendF_len (C : List (Int × Int)) (L : List Pk) (h : L.length ≤ 900) : ∀ (l : List Pk) (k : Nat), k ≤ l.length → (sendF C L (l.take k)).1.length ≤ 900 ∧ (sendF C L (l.take k)).2 ≤ k
  | l, 0, _ => by simp [sendF, h]
  | l, k + 1, hk => by
    obtain ⟨h1, h2⟩ := sendF_len C L h l k (by omega)
    rw [sendF_take C L l k (by omega)]
    refine ⟨send1_len C _ _ h1, ?_⟩
    unfold send1
    split
    · omega
    · show _ + 1 ≤ _
      omega
theorem cutF_mem (C : List (Int × Int)) (a b : Int) (on : Bool) (x : Int × Int) : x ∈ cutF C a b on ↔ (x ∈ C ∧ x ≠ endsP a b) ∨ (on = true ∧ x = endsP a b) := by
  unfold cutF
  rw [List.mem_append, List.mem_filter, decide_eq_true_eq]
  cases on <;> simp
theorem cutF_len (C : List (Int × Int)) (a b : Int) (on : Bool) : (cutF C a b on).length ≤ C.length + 1 := by
  unfold cutF
  rw [List.length_append]
  have := List.length_filter_le (fun x => decide (x ≠ endsP a b)) C
  split <;> (simp only [List.length_nil, List.length_singleton]; omega)
theorem swapF_len (L : List Pk) (k j : Nat) : (swapF L k j).length = L.length := by simp [swapF]
/-- What was lost because of the first m cuts. -/
def lostK (C : List (Int × Int)) (L : List Pk) (x : Pk) (m : Nat) : Bool := decide (900 ≤ L.length) || decide (endsP x.f x.t ∈ C.take m)
theorem lostK_zero (C : List (Int × Int)) (L : List Pk) (x : Pk) : lostK C L x 0 = decide (900 ≤ L.length) := by simp [lostK]
theorem lostK_all (C : List (Int × Int)) (L : List Pk) (x : Pk) : lostK C L x C.length = lostB C L x := by simp [lostK, lostB]
theorem lostK_more (C : List (Int × Int)) (L : List Pk) (x : Pk) (m : Nat) (hm : m < C.length) : lostK C L x (m + 1) = (lostK C L x m || decide (C[m] = endsP x.f x.t)) := by
  unfold lostK
  rw [List.take_succ_eq_append_getElem hm, Bool.or_assoc]
  congr 1
  rw [Bool.eq_iff_iff]
  simp only [List.mem_append, List.mem_singleton, decide_eq_true_eq, Bool.or_eq_true]
  constructor
  · rintro (h | h)
    · exact .inl h
    · exact .inr h.symm
  · rintro (h | h)
    · exact .inl h
    · exact .inr h.symm
end NetP
end Go.Proofs.Ytkfbljbhdjnggaa
