/- Package rec: the sectors behind the first one are read (readRest). -/
import Derived.Test.YtlaclbcckadmkaaGreatGR
namespace Go.Proofs.YtlaclbcckadmkaaGreat
open Go Go.RowKit
set_option maxRecDepth 100000
set_option maxHeartbeats 1000000
set_option linter.unusedSimpArgs false

/-- What stands while the further sectors are read: the owner of the last one, and the bytes that are there. -/
def Ow.at_ (o : Ow) (j : Nat) : Ow := ⟨o.e, o.n, o.p + j, o.c⟩
def restJ (acc : List UInt8) (F : List UInt8 × Nat) : List UInt8 × Nat := if F.2 = 0 then (acc ++ F.1, 0) else ([], F.2)
theorem rest_step (k : Nat) (o : Ow) (b acc : List UInt8) : (soundB (b.take 64) = false → restJ acc (restF (k + 1) o b) = ([], 6)) ∧ (soundB (b.take 64) = true → owOf (b.take 64) ≠ o.next → restJ acc (restF (k + 1) o b) = ([], 4)) ∧
    (soundB (b.take 64) = true → owOf (b.take 64) = o.next → restJ acc (restF (k + 1) o b) = restJ (acc ++ dataOf (b.take 64)) (restF k o.next (b.drop 64))) := by
  refine ⟨fun h => ?_, fun h h2 => ?_, fun h h2 => ?_⟩
  · rw [restF, if_pos h]
    rfl
  · rw [restF, if_neg (by simp [h]), if_pos h2]
    rfl
  · rw [restF, if_neg (by simp [h]), if_neg (by simp [h2])]
    unfold restJ
    by_cases hz : (restF k o.next (b.drop 64)).2 = 0
    · rw [if_pos hz, if_pos rfl, if_pos hz, List.append_assoc]
    · rw [if_neg hz, if_neg hz, if_neg hz]
theorem rest_nil : ∀ (m : Nat) (o : Ow) (b : List UInt8), restJ [] (restF m o b) = restF m o b
  | 0, _, _ => rfl
  | m + 1, o, b => by
    rw [restF]
    by_cases h1 : soundB (b.take 64) = false
    · rw [if_pos h1]; rfl
    · rw [if_neg h1]
      by_cases h2 : owOf (b.take 64) ≠ o.next
      · rw [if_pos h2]; rfl
      · rw [if_neg h2]
        by_cases h3 : (restF m o.next (b.drop 64)).2 = 0
        · rw [if_pos h3]; rfl
        · rw [if_neg h3, restJ, if_neg h3]
theorem data_len {s : List UInt8} : (dataOf s).length ≤ 42 := by
  unfold dataOf
  rw [List.length_drop, List.length_take]
  omega
end Go.Proofs.YtlaclbcckadmkaaGreat
