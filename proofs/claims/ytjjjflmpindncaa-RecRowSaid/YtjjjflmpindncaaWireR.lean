/- Package wire: a Reader: laid, take, fail, ready and each of its calls: what it answers and leaves. -/
import Derived.Test.YtjjjflmpindncaaWireA
import Derived.Test.YtjjjflmpindncaaMem
import Derived.Laws.BitsAllLaws
namespace Go.Proofs.Ytjjjflmpindncaa
open Go Go.RowKit
set_option maxRecDepth 100000
/-- At p lies a Reader with the bytes s left and the error e. -/
def Rd (w : World) (p : Nat) (s : List UInt8) (e : Int) : Prop := Sits w p 93 #[.string (str s), .int .i64 e]

theorem rready_nil (w : World) : Calls Try.prog 43 #[.pointer none] w fun e w' => e = .returned (.bool false) ∧ w = w' := by
  go_enter Try.func43, Try.ntmps43
  go_wp2
  go_ret
  exact ⟨rfl, rfl⟩
theorem rready_any (p : Nat) (s : List UInt8) (e : Int) (w : World) (h : Rd w p s e) : Calls Try.prog 43 #[.pointer (some ⟨p, 0, none⟩)] w fun r w' => r = .returned (.bool (e == 0)) ∧ w = w' := by
  have c1 := h.cell 1
  go_enter Try.func43, Try.ntmps43
  go_wp2
  go_ret
  exact ⟨rfl, rfl⟩
theorem rready_ok (p : Nat) (s : List UInt8) (w : World) (h : Rd w p s 0) : Calls Try.prog 43 #[.pointer (some ⟨p, 0, none⟩)] w fun r w' => r = .returned (.bool true) ∧ w = w' :=
  rready_any p s 0 w h
theorem rready_bad (p : Nat) (s : List UInt8) (e : Int) (w : World) (h : Rd w p s e) (he : e ≠ 0) : Calls Try.prog 43 #[.pointer (some ⟨p, 0, none⟩)] w fun r w' => r = .returned (.bool false) ∧ w = w' :=
  (rready_any p s e w h).mono fun _ _ ⟨hr, hw⟩ => ⟨by rw [hr, beq_eq_false_iff_ne.2 he], hw⟩
theorem rfail_any (p : Nat) (s : List UInt8) (x e : Int) (w : World) (h : Rd w p s x) : Calls Try.prog 44 #[.pointer (some ⟨p, 0, none⟩), .int .i64 e] w fun r w' => r = .returned (.tuple #[]) ∧ Rd w' p [] e ∧ Only p w w' := by
  have c0 := h.cell 0
  have c1 := h.cell 1
  have f0 := h.warm 0
  have f1 := h.warm 1
  go_enter Try.func44, Try.ntmps44
  go_wp2
  go_end0
  exact ⟨rfl, (h.put 0 _).put 1 _, ((Only.refl p w).store 0 _).store 1 _⟩
theorem rtake_any (p n : Nat) (s : List UInt8) (e : Int) (w : World) (h : Rd w p s e) (hn : n ≤ s.length) (hl : s.length ≤ 70368744177664) : Calls Try.prog 46 #[.pointer (some ⟨p, 0, none⟩), .int .i64 n] w fun r w' => r = .returned (.string (str (s.take n))) ∧ Rd w' p (s.drop n) e ∧ Only p w w' := by
  have c0 := h.cell 0
  have f0 := h.warm 0
  have hz := str_size s
  have hle : n ≤ (str s).size := by omega
  have hle2 : (str s).size ≤ 70368744177664 := by omega
  clear hz
  go_enter Try.func46, Try.ntmps46
  go_wp2
  go_ret
  rw [str_extract, str_extract, str_size, List.take_length, List.drop_zero]
  exact ⟨rfl, h.put 0 _, (Only.refl p w).store 0 _⟩
theorem or_step (a c k : Nat) (ha : a < 256 ^ k) (hc : c < 256) (hk : k ≤ 7) :
    bits BinOp.or IntKind.u64 (a : Int) (IntKind.u64.wrap (IntKind.u64.wrap (c : Int) * 2 ^ (8 * k))) = ((a + c * 256 ^ k : Nat) : Int) := by
  have e8 : (256 : Nat) = 2 ^ 8 := rfl
  have hp : (256 : Nat) ^ k ≤ 256 ^ 7 := Nat.pow_le_pow_right (by omega) hk
  have h7 : (256 : Nat) ^ 7 = 72057594037927936 := by decide
  have hm : c * 256 ^ k ≤ 255 * 72057594037927936 := Nat.mul_le_mul (by omega) (by omega)
  have hq : (2 : Int) ^ (8 * k) = ((256 ^ k : Nat) : Int) := by rw [e8, ← Nat.pow_mul]; simp
  have h1 : IntKind.u64.wrap (c : Int) = (c : Int) := by rw [IntKind.wrap_u64]; omega
  have h2 : IntKind.u64.wrap ((c : Int) * ((256 ^ k : Nat) : Int)) = ((c * 256 ^ k : Nat) : Int) := by
    rw [← Int.natCast_mul, IntKind.wrap_u64]; omega
  rw [h1, hq, h2, u64_or_nat _ _ (by omega) (by omega)]
  have := Nat.two_pow_add_eq_or_of_lt (i := 8 * k) (by rw [Nat.pow_mul]; exact ha) c
  rw [Nat.pow_mul, ← e8] at this
  rw [Nat.or_comm, Nat.mul_comm c, ← this, Nat.add_comm]
theorem laid_any (s : List UInt8) (w : World) (hl : s.length ≤ 8) : Calls Try.prog 45 #[.string (str s)] w fun r w' => r = .returned (.int .u64 (unleb s)) ∧ w = w' := by
  have hz := str_size s
  have hle : (str s).size ≤ 8 := by omega
  have HZ := Lib.hid hz
  clear hz
  go_enter Try.func45, Try.ntmps45
  go_wp2
  go_loop [3, 7] (fun v i => ∃ k : Nat, k ≤ (str s).size ∧ i = .int .i64 k ∧ v = .int .u64 (unleb (s.take k))) (fun _ i => (str s).size - (intOf i).toNat)
  case atStart => exact ⟨0, by omega, rfl, rfl⟩
  case round =>
    obtain ⟨k, hk, rfl, rfl⟩ := hrel
    by_cases hlt : k < (str s).size
    · go_wp2
      go_round
      case rel =>
        have hl2 : k < s.length := by rw [← HZ.out]; exact hlt
        refine ⟨k + 1, by omega, by go_num, ?_⟩
        have hu := unleb_lt (s.take k)
        rw [List.length_take, Nat.min_eq_left (by omega)] at hu
        rw [str_get, or_step _ _ _ hu s[k].toNat_lt (by omega), unleb_take s k hl2]
      case measure => simp [intOf]; omega
    · obtain rfl : k = (str s).size := by omega
      go_wp2
      go_ret
      rw [HZ.out, List.take_length]
      exact ⟨rfl, rfl⟩
end Go.Proofs.Ytjjjflmpindncaa
