/- The check sum of 32 bits as plain mathematics: what a bit, a byte and a text make of it, and that one byte that is changed always changes it. -/
import Derived.Test.YtjjjflmpindncaaNum
import Derived.Laws.BitsAllLaws
namespace Go.Proofs.Ytjjjflmpindncaa
open Go Go.RowKit

/-- One bit that is shifted out. -/
def crcBit (x : Nat) : Nat := (x / 2) ^^^ (if x % 2 = 1 then 3988292384 else 0)
def crcBits (x : Nat) : Nat → Nat
  | 0 => x
  | k + 1 => crcBit (crcBits x k)
def crcByte (x : Nat) (b : UInt8) : Nat := crcBits (x ^^^ b.toNat) 8
def crcMore (x : Nat) (l : List UInt8) : Nat := l.foldl crcByte x
/-- The check sum of a text. -/
def crc (l : List UInt8) : Nat := crcMore 4294967295 l ^^^ 4294967295

theorem byte_lt (b : UInt8) : b.toNat < 256 := b.toNat_lt
theorem crcBit_lt {x : Nat} (h : x < 4294967296) : crcBit x < 4294967296 := by
  unfold crcBit
  refine Nat.xor_lt_two_pow (n := 32) (by omega) ?_
  split <;> omega
theorem crcBits_lt {x : Nat} (h : x < 4294967296) : ∀ k, crcBits x k < 4294967296
  | 0 => h
  | k + 1 => crcBit_lt (crcBits_lt h k)
theorem xor_byte_lt {x : Nat} (h : x < 4294967296) (b : UInt8) : x ^^^ b.toNat < 4294967296 :=
  Nat.xor_lt_two_pow (n := 32) (by omega) (by have := byte_lt b; omega)
theorem crcByte_lt {x : Nat} (h : x < 4294967296) (b : UInt8) : crcByte x b < 4294967296 := crcBits_lt (xor_byte_lt h b) 8
theorem crcMore_lt {x : Nat} (h : x < 4294967296) : ∀ l, crcMore x l < 4294967296
  | [] => h
  | b :: l => crcMore_lt (crcByte_lt h b) l
theorem crc_lt (l : List UInt8) : crc l < 4294967296 := Nat.xor_lt_two_pow (n := 32) (crcMore_lt (by omega) l) (by omega)
theorem crcMore_append (x : Nat) (l m : List UInt8) : crcMore x (l ++ m) = crcMore (crcMore x l) m := List.foldl_append ..
theorem crcMore_snoc (x : Nat) (l : List UInt8) (b : UInt8) : crcMore x (l ++ [b]) = crcByte (crcMore x l) b := by rw [crcMore_append]; rfl

theorem xor_cancel {a b c : Nat} (h : a ^^^ c = b ^^^ c) : a = b := by
  have := congrArg (· ^^^ c) h
  simpa [Nat.xor_assoc] using this
theorem crcBit_inj {x y : Nat} (hx : x < 4294967296) (hy : y < 4294967296) (h : crcBit x = crcBit y) : x = y := by
  unfold crcBit at h
  have key : ∀ a b : Nat, a < 2147483648 → b < 2147483648 → a ^^^ 3988292384 = b → False := by
    intro a b ha hb e
    have e2 : a ^^^ b = 3988292384 := by rw [← e, ← Nat.xor_assoc, Nat.xor_self, Nat.zero_xor]
    have := Nat.xor_lt_two_pow (n := 31) (show a < 2 ^ 31 by omega) (show b < 2 ^ 31 by omega)
    omega
  by_cases h1 : x % 2 = 1 <;> by_cases h2 : y % 2 = 1
  · rw [if_pos h1, if_pos h2] at h
    have := xor_cancel h
    omega
  · rw [if_pos h1, if_neg h2, Nat.xor_zero] at h
    exact (key _ _ (by omega) (by omega) h).elim
  · rw [if_neg h1, if_pos h2, Nat.xor_zero] at h
    exact (key _ _ (by omega) (by omega) h.symm).elim
  · rw [if_neg h1, if_neg h2, Nat.xor_zero, Nat.xor_zero] at h
    omega
theorem crcBits_inj {x y : Nat} (hx : x < 4294967296) (hy : y < 4294967296) : ∀ k, crcBits x k = crcBits y k → x = y
  | 0, h => h
  | k + 1, h => crcBits_inj hx hy k (crcBit_inj (crcBits_lt hx k) (crcBits_lt hy k) h)
theorem crcByte_inj {x y : Nat} (hx : x < 4294967296) (hy : y < 4294967296) (b : UInt8) (h : crcByte x b = crcByte y b) : x = y :=
  xor_cancel (crcBits_inj (xor_byte_lt hx b) (xor_byte_lt hy b) 8 h)
theorem crcByte_other {x : Nat} (hx : x < 4294967296) {b c : UInt8} (h : crcByte x b = crcByte x c) : b = c := by
  have := crcBits_inj (xor_byte_lt hx b) (xor_byte_lt hx c) 8 h
  rw [Nat.xor_comm x, Nat.xor_comm x] at this
  exact UInt8.toNat_inj.1 (xor_cancel this)
theorem crcMore_inj : ∀ (l : List UInt8) {x y : Nat}, x < 4294967296 → y < 4294967296 → crcMore x l = crcMore y l → x = y
  | [], _, _, _, _, h => h
  | b :: l, _, _, hx, hy, h => crcByte_inj hx hy b (crcMore_inj l (crcByte_lt hx b) (crcByte_lt hy b) h)
/-- One byte that is changed changes the sum. -/
theorem crc_set (l : List UInt8) (i : Nat) (h : i < l.length) (b : UInt8) (hb : b ≠ l[i]) : crc (l.set i b) ≠ crc l := by
  intro e
  have e := xor_cancel e
  have e1 : l.set i b = l.take i ++ b :: l.drop (i + 1) := by rw [List.set_eq_take_append_cons_drop, if_pos h]
  have e2 : l = l.take i ++ l[i] :: l.drop (i + 1) := by simp
  rw [e1] at e
  conv at e => rhs; rw [e2]
  rw [crcMore_append, crcMore_append] at e
  have hlt := crcMore_lt (x := 4294967295) (by omega) (l.take i)
  exact hb (crcByte_other hlt (crcMore_inj (l.drop (i + 1)) (crcByte_lt hlt _) (crcByte_lt hlt _) e))

theorem flip_sub {x : Nat} (h : x < 4294967296) : x ^^^ 4294967295 = 4294967295 - x := by
  have e : (BitVec.ofNat 32 x ^^^ BitVec.allOnes 32).toNat = (~~~ BitVec.ofNat 32 x).toNat := by rw [BitVec.xor_allOnes]
  rw [BitVec.toNat_xor, BitVec.toNat_not, BitVec.toNat_allOnes, BitVec.toNat_ofNat, Nat.mod_eq_of_lt (by omega)] at e
  exact e

/-- The sum's bytes, the lowest first. -/
def sum4 (l : List UInt8) : List UInt8 := leb 4 (crc l)
theorem sum4_length (l : List UInt8) : (sum4 l).length = 4 := leb_length 4 _
theorem leb_inj {n v u : Nat} (hv : v < 256 ^ n) (hu : u < 256 ^ n) (h : leb n v = leb n u) : v = u := by
  rw [← unleb_leb n v hv, ← unleb_leb n u hu, h]
theorem sum4_set (l : List UInt8) (i : Nat) (h : i < l.length) (b : UInt8) (hb : b ≠ l[i]) : sum4 (l.set i b) ≠ sum4 l := fun e =>
  crc_set l i h b hb (leb_inj (n := 4) (by have := crc_lt (l.set i b); omega) (by have := crc_lt l; omega) e)

/-- One bit, as the program reckons it. -/
theorem crcBit_code (x : Nat) (h : x < 4294967296) : bits .xor .u32 ((x : Int) / 2) (bits .and .u32 3988292384 (-bits .and .u32 (x : Int) 1 % 4294967296)) = (crcBit x : Int) := by
  have h1 : bits .and .u32 (x : Int) 1 = ((x % 2 : Nat) : Int) := by
    have := u32_and_nat x 1 h (by omega)
    rw [nat_mask1] at this
    exact this
  have h2 : -((x % 2 : Nat) : Int) % 4294967296 = ((if x % 2 = 1 then 4294967295 else 0 : Nat) : Int) := by
    split <;> omega
  have h3 : bits .and .u32 3988292384 ((if x % 2 = 1 then 4294967295 else 0 : Nat) : Int) = ((if x % 2 = 1 then 3988292384 else 0 : Nat) : Int) := by
    have := u32_and_nat 3988292384 (if x % 2 = 1 then 4294967295 else 0) (by omega) (by split <;> omega)
    refine this.trans (congrArg _ ?_)
    split <;> decide
  rw [h1, h2, h3, show (x : Int) / 2 = ((x / 2 : Nat) : Int) by omega, u32_xor_nat _ _ (by omega) (by split <;> omega)]
  rfl
end Go.Proofs.Ytjjjflmpindncaa
