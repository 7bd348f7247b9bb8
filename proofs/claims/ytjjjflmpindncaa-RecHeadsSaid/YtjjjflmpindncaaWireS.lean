/- Package wire: NewReader and Num, Int, Text, Flag, Skip, Count, Err, End of a Reader: what each answers and leaves. -/
import Derived.Test.YtjjjflmpindncaaWireR
import Derived.Test.YtjjjflmpindncaaShelf
namespace Go.Proofs.Ytjjjflmpindncaa
open Go Go.RowKit
set_option maxRecDepth 100000

/-- A call of a Reader that answers v and leaves these bytes and this error. -/
def Got (w : World) (p : Nat) (v : Value) (s : List UInt8 × Int) (r : Ending) (w' : World) : Prop := r = .returned v ∧ Rd w' p s.1 s.2 ∧ Only p w w'

def rnum (n : Int) (s : List UInt8) (e : Int) : Nat × List UInt8 × Int :=
  if e = 0 then (if 1 ≤ n ∧ n ≤ 8 then (if n ≤ s.length then (unleb (s.take n.toNat), s.drop n.toNat, 0) else (0, [], 5)) else (0, [], 1)) else (0, s, e)
def rcount (most : Int) (s : List UInt8) (e : Int) : Nat × List UInt8 × Int :=
  if (rnum 2 s e).2.2 = 0 ∧ most < (rnum 2 s e).1 then (0, [], 2) else rnum 2 s e
def rtext (room : Int) (s : List UInt8) (e : Int) : List UInt8 × List UInt8 × Int :=
  if e = 0 then (if 0 ≤ room ∧ room ≤ 60000 then
      (if (rcount room s e).2.1.length < (rcount room s e).1 then ([], [], 5) else ((rcount room s e).2.1.take (rcount room s e).1, (rcount room s e).2.1.drop (rcount room s e).1, (rcount room s e).2.2))
    else ([], [], 1)) else ([], s, e)
def rflag (s : List UInt8) (e : Int) : Bool × List UInt8 × Int :=
  if 1 < (rnum 1 s e).1 then (false, [], 4) else (decide ((rnum 1 s e).1 = 1), (rnum 1 s e).2)
def zeros (s : List UInt8) : Bool := s.all (· == 0)
def rskip (n : Int) (s : List UInt8) (e : Int) : List UInt8 × Int :=
  if e = 0 then (if 0 ≤ n then (if n ≤ s.length then (if zeros (s.take n.toNat) then (s.drop n.toNat, 0) else ([], 4)) else ([], 5)) else ([], 1)) else (s, e)
def rend (s : List UInt8) (e : Int) : Int := if e = 0 then (if zeros s then 0 else 4) else e

theorem Rd.below {w w' : World} {p : Nat} {s : List UInt8} {e : Int} (h : Rd w p s e) (hb : Below w.heap.size w w') : Rd w' p s e := Sits.below' h hb

theorem newreader_any (s : ByteArray) (w : World) : Calls Try.prog 30 #[.string s] w fun r w' => r = .returned (.pointer (some ⟨w.heap.size, 0, none⟩)) ∧ Rd w' w.heap.size s.data.toList 0 ∧ Below w.heap.size w w' := by
  go_enter Try.func30, Try.ntmps30
  go_wp2
  go_ret
  refine ⟨rfl, ?_, (Below.refl _ _).alloc (Nat.le_refl _) _⟩
  rw [Rd, str_of]
  exact Sits.fresh w _ _

theorem rnum_nil (n : Int) (w : World) : Calls Try.prog 31 #[.pointer none, .int .i64 n] w fun r w' => r = .returned (.int .u64 0) ∧ w = w' := by
  go_enter Try.func31, Try.ntmps31
  go_wp2_with (go_at_call 43; refine (rready_nil _).mono ?_; rintro e w' ⟨rfl, rfl⟩)
  go_ret
  exact ⟨rfl, rfl⟩

theorem rnum_any (p : Nat) (s : List UInt8) (e n : Int) (w : World) (h : Rd w p s e) (hl : s.length ≤ 70368744177664) :
    Calls Try.prog 31 #[.pointer (some ⟨p, 0, none⟩), .int .i64 n] w (Got w p (.int .u64 (rnum n s e).1) (rnum n s e).2) := by
  have c0 := h.cell 0
  have hz := str_size s
  by_cases he : e = 0
  · subst he
    by_cases hn : 1 ≤ n ∧ n ≤ 8
    · obtain ⟨m, rfl⟩ := Int.eq_ofNat_of_zero_le (show 0 ≤ n by omega)
      by_cases hf : (m : Int) ≤ s.length
      · rw [show rnum m s 0 = (unleb (s.take m), s.drop m, 0) by simp [rnum, hn, hf]]
        have hle : m ≤ (str s).size := by omega
        have hs8 : (str s).size ≤ 70368744177664 := by omega
        have hm8 : m ≤ 8 := by omega
        have hm1 : 1 ≤ m := by omega
        have HF := Lib.hid hf
        clear hf hn hz
        go_enter Try.func31, Try.ntmps31
        go_wp2_with (first
          | (go_at_call 43; refine (rready_ok p s _ h).mono ?_; rintro e w' ⟨rfl, rfl⟩)
          | (go_at_call 35; refine (isWidth_yes _ _ (by omega)).mono ?_; rintro e w' ⟨rfl, rfl⟩)
          | (go_at_call 46; refine (rtake_any p m s 0 _ h (by have := HF.out; omega) hl).mono ?_; rintro e w1 ⟨rfl, h1, ho⟩)
          | (go_at_call 45; refine (laid_any _ _ (by rw [List.length_take]; omega)).mono ?_; rintro e w2 ⟨rfl, rfl⟩))
        go_ret
        exact ⟨rfl, h1, ho⟩
      · rw [show rnum m s 0 = (0, [], 5) by simp [rnum, hn, hf]]
        have hgt : (str s).size < m := by omega
        have hm8 : m ≤ 8 := by omega
        have hm1 : 1 ≤ m := by omega
        clear hf hn hz
        go_enter Try.func31, Try.ntmps31
        go_wp2_with (first
          | (go_at_call 43; refine (rready_ok p s _ h).mono ?_; rintro e w' ⟨rfl, rfl⟩)
          | (go_at_call 35; refine (isWidth_yes _ _ (by omega)).mono ?_; rintro e w' ⟨rfl, rfl⟩)
          | (go_at_call 44; refine (rfail_any p s 0 5 _ h).mono ?_; rintro e w1 ⟨rfl, h1, ho⟩))
        go_ret
        exact ⟨rfl, h1, ho⟩
    · rw [show rnum n s 0 = (0, [], 1) by simp [rnum, hn]]
      have HN := Lib.hid hn
      clear hn hz
      go_enter Try.func31, Try.ntmps31
      go_wp2_with (first
        | (go_at_call 43; refine (rready_ok p s _ h).mono ?_; rintro e w' ⟨rfl, rfl⟩)
        | (go_at_call 35; refine (isWidth_no _ _ HN.out).mono ?_; rintro e w' ⟨rfl, rfl⟩)
        | (go_at_call 44; refine (rfail_any p s 0 1 _ h).mono ?_; rintro e w1 ⟨rfl, h1, ho⟩))
      go_ret
      exact ⟨rfl, h1, ho⟩
  · rw [show rnum n s e = (0, s, e) by simp [rnum, he]]
    have HE := Lib.hid he
    clear he hz
    go_enter Try.func31, Try.ntmps31
    go_wp2_with (go_at_call 43; refine (rready_bad p s e _ h HE.out).mono ?_; rintro e w' ⟨rfl, rfl⟩)
    go_ret
    exact ⟨rfl, h, Only.refl p w⟩

theorem rnum_lt (n : Int) (s : List UInt8) (e : Int) : (rnum n s e).1 < 18446744073709551616 := by
  unfold rnum
  split
  · split
    · split
      · have h := unleb_lt (s.take n.toNat)
        have hp : (256 : Nat) ^ (s.take n.toNat).length ≤ 256 ^ 8 := Nat.pow_le_pow_right (by omega) (by rw [List.length_take]; omega)
        have h8 : (256 : Nat) ^ 8 = 18446744073709551616 := by decide
        show unleb (s.take n.toNat) < _
        omega
      · decide
    · decide
  · show 0 < _
    omega
theorem rnum_two (s : List UInt8) (e : Int) : (rnum 2 s e).1 < 65536 := by
  unfold rnum
  split
  · rw [if_pos (by omega)]
    split
    · have h := unleb_lt (s.take 2)
      have hp : (256 : Nat) ^ (s.take 2).length ≤ 256 ^ 2 := Nat.pow_le_pow_right (by omega) (by rw [List.length_take]; omega)
      have h8 : (256 : Nat) ^ 2 = 65536 := by decide
      show unleb (s.take 2) < _
      omega
    · decide
  · show 0 < _
    omega
theorem rnum_len (n : Int) (s : List UInt8) (e : Int) : (rnum n s e).2.1.length ≤ s.length := by
  unfold rnum
  split
  · split
    · split <;> simp
    · simp
  · simp
theorem rcount_lt (most : Int) (s : List UInt8) (e : Int) : (rcount most s e).1 < 65536 := by
  have h := rnum_two s e
  unfold rcount
  split
  · decide
  · exact h
theorem rcount_len (most : Int) (s : List UInt8) (e : Int) : (rcount most s e).2.1.length ≤ s.length := by
  have h := rnum_len 2 s e
  unfold rcount
  split
  · simp
  · exact h
theorem clone_any (s : ByteArray) (w : World) (hl : s.size ≤ 281474976710656) : Calls Try.prog 55 #[.string s] w fun r w' => r = .returned (.string s) ∧ Below w.heap.size w w' := by
  go_enter Try.func55, Try.ntmps55
  go_wp2_with (go_at_call 60; refine (Try.stringslite_Clone s _ hl).mono ?_; rintro e w' ⟨rfl, hb⟩)
  go_ret
  exact ⟨rfl, hb⟩
end Go.Proofs.Ytjjjflmpindncaa
