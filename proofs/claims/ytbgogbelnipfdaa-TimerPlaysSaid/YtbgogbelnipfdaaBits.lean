/- Bits of an int: '&' with a number that is not negative. -/
import Derived.Handy
import Derived.IntWalk
namespace Go.Proofs.Ytbgogbelnipfdaa
open Go Go.RowKit
theorem bits_and_i64 (y : Int) (m : Nat) (hm : m < 9223372036854775808) : ∃ n : Nat, n ≤ m ∧ bits .and .i64 y (m : Int) = (n : Int) := by
  refine ⟨(BitVec.ofInt 64 y).toNat &&& m, Nat.and_le_right, ?_⟩
  have h2 : (BitVec.ofInt 64 (m : Int)).toNat = m := by
    rw [BitVec.ofInt_natCast, BitVec.toNat_ofNat]; exact Nat.mod_eq_of_lt (by omega)
  have hle : (BitVec.ofInt 64 y).toNat &&& m ≤ m := Nat.and_le_right
  show IntKind.i64.wrap ((BitVec.ofInt 64 y &&& BitVec.ofInt 64 (m : Int)).toNat : Int) = _
  rw [BitVec.toNat_and, h2]
  exact IntWalk.i64_in _ (by omega)
end Go.Proofs.Ytbgogbelnipfdaa
