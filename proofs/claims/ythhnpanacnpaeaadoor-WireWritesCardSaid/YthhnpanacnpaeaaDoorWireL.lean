/- Plain facts on what a Writer puts and a Reader gets: what was put is read as it was. -/
import Derived.Test.YthhnpanacnpaeaaDoorLaid
namespace Go.Proofs.YthhnpanacnpaeaaDoor
open Go Go.RowKit
theorem rnum_leb (k v : Nat) (rest : List UInt8) (h1 : 1 ≤ k) (h8 : k ≤ 8) (hv : v < 256 ^ k) : rnum k (leb k v ++ rest) 0 = (v, rest, 0) := by
  have hl := leb_length k v
  rw [rnum, if_pos rfl, if_pos (by omega), if_pos (by rw [List.length_append]; omega), Int.toNat_natCast, List.take_append_of_le_length (by omega), List.drop_append_of_le_length (by omega),
    List.take_of_length_le (by omega), List.drop_of_length_le (by omega), unleb_leb k v hv, List.nil_append]
theorem wnum_fit (k v : Nat) (bs : List UInt8) (h1 : 1 ≤ k) (h8 : k ≤ 8) (hv : v < 256 ^ k) : wnum v k bs 0 = (bs ++ leb k v, 0) := by
  rw [wnum, if_pos rfl, if_pos ⟨by omega, by rw [Int.toNat_natCast]; exact hv⟩, Int.toNat_natCast]
theorem rnum_two_leb (v : Nat) (rest : List UInt8) (hv : v ≤ 65535) : rnum 2 (leb 2 v ++ rest) 0 = (v, rest, 0) := rnum_leb 2 v rest (by omega) (by omega) (by omega)
theorem rcount_leb (v : Nat) (most : Int) (rest : List UInt8) (hv : v ≤ 65535) (hm : (v : Int) ≤ most) : rcount most (leb 2 v ++ rest) 0 = (v, rest, 0) := by
  rw [rcount, rnum_two_leb v rest hv, if_neg (by simp; omega)]
theorem rcount_over (v : Nat) (most : Int) (rest : List UInt8) (hv : v ≤ 65535) (hm : most < (v : Int)) : rcount most (leb 2 v ++ rest) 0 = (0, [], 2) := by
  rw [rcount, rnum_two_leb v rest hv, if_pos ⟨rfl, hm⟩]
theorem rtext_leb (s rest : List UInt8) (room : Int) (h0 : (s.length : Int) ≤ room) (h1 : room ≤ 60000) : rtext room (leb 2 s.length ++ s ++ rest) 0 = (s, rest, 0) := by
  rw [List.append_assoc, rtext, if_pos rfl, if_pos (by omega), rcount_leb s.length room (s ++ rest) (by omega) h0, if_neg (by simp)]
  simp
theorem zeros_replicate (n : Nat) : zeros (List.replicate n 0) = true := by
  simp [zeros]
theorem wrap_unsig (i : Int) (h0 : -9223372036854775808 ≤ i) (h1 : i ≤ 9223372036854775807) : wrap64 ((unsig i : Nat) : Int) = i := by
  simp only [wrap64, unsig]
  omega
theorem wnum_more_eq (k v : Nat) (bs : List UInt8) (hv : ¬ v < 256 ^ k) : wnum v k bs 0 = ([], 1) := by
  rw [wnum, if_pos rfl, if_neg (fun h => hv (by have := h.2; rwa [Int.toNat_natCast] at this))]
theorem rflag_leb (f : Bool) (rest : List UInt8) : rflag (leb 1 (if f then 1 else 0) ++ rest) 0 = (f, rest, 0) := by
  have h := rnum_leb 1 (if f then 1 else 0) rest (by omega) (by omega) (by cases f <;> decide)
  have h' : rnum 1 (leb 1 (if f then 1 else 0) ++ rest) 0 = ((if f then 1 else 0), rest, 0) := h
  rw [rflag, h']
  cases f <;> simp
theorem wpad_ok (n : Nat) (bs : List UInt8) (h : n ≤ 60000) (hb : bs.length ≤ n) : wpad n bs 0 = (bs ++ List.replicate (n - bs.length) 0, 0) := by
  rw [wpad, if_pos rfl, if_pos (by omega), if_pos (by omega), Int.toNat_natCast]
theorem wpad_short (n : Nat) (bs : List UInt8) (h : n ≤ 60000) (hb : n < bs.length) : wpad n bs 0 = ([], 2) := by
  rw [wpad, if_pos rfl, if_pos (by omega), if_neg (by omega)]
theorem wtext_fit (s bs : List UInt8) (room : Int) (h0 : (s.length : Int) ≤ room) (h1 : room ≤ 60000) : wtext s room bs 0 = (bs ++ leb 2 s.length ++ s, 0) := by
  rw [wtext, if_pos rfl, if_pos (by omega), if_pos h0]
theorem wint_fit (i : Int) (bs : List UInt8) : wnum (unsig i) 8 bs 0 = (bs ++ leb 8 (unsig i), 0) :=
  wnum_fit 8 (unsig i) bs (by omega) (by omega) (by
    have := unsig_lt i
    have e : (256 : Nat) ^ 8 = 18446744073709551616 := by decide
    omega)
theorem wflag_fit (f : Bool) (bs : List UInt8) : wnum (if f then 1 else 0) 1 bs 0 = (bs ++ leb 1 (if f then 1 else 0), 0) :=
  wnum_fit 1 (if f then 1 else 0) bs (by omega) (by omega) (by cases f <;> decide)
theorem rint_leb (i : Int) (rest : List UInt8) : rnum 8 (leb 8 (unsig i) ++ rest) 0 = (unsig i, rest, 0) :=
  rnum_leb 8 (unsig i) rest (by omega) (by omega) (by
    have := unsig_lt i
    have e : (256 : Nat) ^ 8 = 18446744073709551616 := by decide
    omega)
theorem rend_replicate (n : Nat) : rend (List.replicate n 0) 0 = 0 := by rw [rend, if_pos rfl, zeros_replicate, if_pos rfl]
/-- 1 shifted by 8 times m, as a uint64, for m below 8. -/
theorem shl_run (P : Program) (m : Nat) (hm : m < 8) (W : World) : Sem.run P (Op.shift BinOp.shl IntKind.u64 1 IntKind.i64 (wrap64 (8 * (m : Int)))) W = .ok (.int .u64 ((256 ^ m : Nat) : Int)) W := by
  have e1 : wrap64 (8 * (m : Int)) = ((8 * m : Nat) : Int) := by simp only [wrap64]; omega
  rw [e1, shift_shl_any _ _ _ _ (by omega), Sem.run_pure]
  have e2 : min ((8 * m : Nat) : Int).toNat IntKind.u64.bits = 8 * m := by
    rw [Int.toNat_natCast]
    show min (8 * m) 64 = 8 * m
    omega
  have e3 : (256 : Nat) ^ m ≤ 256 ^ 7 := Nat.pow_le_pow_right (by omega) (by omega)
  have e4 : (256 : Nat) ^ 7 = 72057594037927936 := by decide
  have e5 : (1 : Int) * 2 ^ (8 * m) = ((256 ^ m : Nat) : Int) := by
    rw [show (256 : Nat) = 2 ^ 8 by rfl, ← Nat.pow_mul]; simp
  rw [e2, e5, IntKind.wrap_u64]
  generalize (256 : Nat) ^ m = q at *
  rw [show ((q : Nat) : Int) % 18446744073709551616 = q by omega]
theorem rskip_zeros (d : Nat) : rskip d (List.replicate d 0) 0 = ([], 0) := by
  rw [rskip, if_pos rfl, if_pos (by omega), if_pos (by simp), Int.toNat_natCast, List.take_of_length_le (by simp), zeros_replicate, if_pos rfl, List.drop_of_length_le (by simp)]
theorem zeros_set (d k : Nat) (h : k < d) : zeros ((List.replicate d 0).set k 7) = false := by
  cases e : zeros ((List.replicate d 0).set k 7) with
  | false => rfl
  | true =>
    have h7 : (7 : UInt8) ∈ (List.replicate d (0 : UInt8)).set k 7 := List.mem_set (by simpa using h) 7
    have := List.all_eq_true.1 e 7 h7
    exact absurd this (by decide)
theorem rskip_set (d k : Nat) (h : k < d) : rskip d ((List.replicate d 0).set k 7) 0 = ([], 4) := by
  rw [rskip, if_pos rfl, if_pos (by omega), if_pos (by simp), Int.toNat_natCast, List.take_of_length_le (by simp), zeros_set d k h, if_neg (by decide)]
theorem set_behind (t : List UInt8) (d k : Nat) : (t ++ List.replicate d 0).set (t.length + k) 7 = t ++ (List.replicate d 0).set k 7 := by
  rw [List.set_append_right _ _ (by omega), Nat.add_sub_cancel_left]
end Go.Proofs.YthhnpanacnpaeaaDoor
