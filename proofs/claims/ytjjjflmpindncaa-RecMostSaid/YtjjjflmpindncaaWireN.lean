/- Package wire: Num, Int, Text, Flag, Pad of a Writer: what each answers and leaves. -/
import Derived.Test.YtjjjflmpindncaaWireW
import Derived.Test.YtjjjflmpindncaaShelf
namespace Go.Proofs.Ytjjjflmpindncaa
open Go Go.RowKit
set_option maxRecDepth 100000

/-- What Num makes of bytes and an error. -/
def wnum (v : Nat) (n : Int) (bs : List UInt8) (e : Int) : List UInt8 × Int :=
  if e = 0 then (if (1 ≤ n ∧ n ≤ 8) ∧ v < 256 ^ n.toNat then (bs ++ leb n.toNat v, 0) else ([], 1)) else (bs, e)
/-- What Text makes of bytes and an error. -/
def wtext (s : List UInt8) (room : Int) (bs : List UInt8) (e : Int) : List UInt8 × Int :=
  if e = 0 then (if 0 ≤ room ∧ room ≤ 60000 then (if (s.length : Int) ≤ room then (bs ++ leb 2 s.length ++ s, 0) else ([], 2)) else ([], 1)) else (bs, e)
/-- What Pad makes of bytes and an error. -/
def wpad (n : Int) (bs : List UInt8) (e : Int) : List UInt8 × Int :=
  if e = 0 then (if n ≤ 60000 then (if (bs.length : Int) ≤ n then (bs ++ List.replicate (n.toNat - bs.length) 0, 0) else ([], 2)) else ([], 1)) else (bs, e)

/-- A call that answers its own receiver and leaves it with these bytes and this error. -/
def Wrote (w : World) (p : Nat) (s : List UInt8 × Int) (r : Ending) (w' : World) : Prop := r = .returned (.pointer (some ⟨p, 0, none⟩)) ∧ Wr w' p s.1 s.2 ∧ Only p w w'

theorem wshift_zero {v m : Nat} (h : v < 256 ^ m) : (v : Int) / 2 ^ (8 * m) = 0 := by
  rw [show (256 : Nat) = 2 ^ 8 by rfl, ← Nat.pow_mul] at h
  have : v / 2 ^ (8 * m) = 0 := Nat.div_eq_of_lt h
  have e : ((v / 2 ^ (8 * m) : Nat) : Int) = 0 := by rw [this]; rfl
  simpa using e
theorem wnum_nil (v n : Int) (w : World) : Calls Try.prog 26 #[.pointer none, .int .u64 v, .int .i64 n] w fun e w' => e = .returned (.pointer none) ∧ w = w' := by
  go_enter Try.func26, Try.ntmps26
  go_wp2_with (go_at_call 34; refine (wready_nil _).mono ?_; rintro e w' ⟨rfl, rfl⟩)
  go_ret
  exact ⟨rfl, rfl⟩

theorem wshift_more {v m : Nat} (h : ¬ v < 256 ^ m) : ¬ ((v : Int) / 2 ^ (8 * m) = 0) := by
  rw [show (256 : Nat) = 2 ^ 8 by rfl, ← Nat.pow_mul] at h
  intro e
  have e2 : ((v / 2 ^ (8 * m) : Nat) : Int) = 0 := by simpa using e
  have e3 : v / 2 ^ (8 * m) = 0 := by omega
  rcases Nat.div_eq_zero_iff.1 e3 with h2 | h2
  · exact absurd h2 (by have := Nat.two_pow_pos (8 * m); omega)
  · exact h h2

theorem wnum_bad (p : Nat) (bs : List UInt8) (e v n : Int) (w : World) (h : Wr w p bs e) (he : e ≠ 0) :
    Calls Try.prog 26 #[.pointer (some ⟨p, 0, none⟩), .int .u64 v, .int .i64 n] w (Wrote w p (bs, e)) := by
  have HE := Lib.hid he
  clear he
  go_enter Try.func26, Try.ntmps26
  go_wp2_with (go_at_call 34; refine (wready_bad p bs e _ h HE.out).mono ?_; rintro e w' ⟨rfl, rfl⟩)
  go_ret
  exact ⟨rfl, h, Only.refl p w⟩
theorem wnum_width (p : Nat) (bs : List UInt8) (v n : Int) (w : World) (h : Wr w p bs 0) (hn : ¬(1 ≤ n ∧ n ≤ 8)) :
    Calls Try.prog 26 #[.pointer (some ⟨p, 0, none⟩), .int .u64 v, .int .i64 n] w (Wrote w p ([], 1)) := by
  have HN := Lib.hid hn
  clear hn
  go_enter Try.func26, Try.ntmps26
  go_wp2_with (first
    | (go_at_call 34; refine (wready_ok p bs _ h).mono ?_; rintro e w' ⟨rfl, rfl⟩)
    | (go_at_call 35; refine (isWidth_no _ _ HN.out).mono ?_; rintro e w' ⟨rfl, rfl⟩)
    | (go_at_call 36; refine (wfail_any p bs 0 1 _ h).mono ?_; rintro e w' ⟨rfl, h'⟩))
  go_ret
  exact ⟨rfl, h'⟩
theorem wnum_more (p : Nat) (bs : List UInt8) (v m : Nat) (w : World) (h : Wr w p bs 0) (h1 : 1 ≤ m) (h8 : m < 8) (hf : ¬ v < 256 ^ m) :
    Calls Try.prog 26 #[.pointer (some ⟨p, 0, none⟩), .int .u64 v, .int .i64 m] w (Wrote w p ([], 1)) := by
  have hq : ((v : Int) / 2 ^ (8 * m) != 0) = true := by simpa using wshift_more hf
  have hq2 : ((v : Int) / 2 ^ (8 * m) == 0) = false := by simpa using wshift_more hf
  clear hf
  go_enter Try.func26, Try.ntmps26
  go_wp2_with (first
    | (go_at_call 34; refine (wready_ok p bs _ h).mono ?_; rintro e w' ⟨rfl, rfl⟩)
    | (go_at_call 35; refine (isWidth_yes _ _ (by omega)).mono ?_; rintro e w' ⟨rfl, rfl⟩)
    | (go_at_call 36; refine (wfail_any p bs 0 1 _ h).mono ?_; rintro e w' ⟨rfl, h'⟩))
  go_ret
  exact ⟨rfl, h'⟩
theorem wnum_fits (p : Nat) (bs : List UInt8) (v m : Nat) (w : World) (h : Wr w p bs 0) (h1 : 1 ≤ m) (h8 : m ≤ 8) (hv : (v : Int) < 18446744073709551616) (hl : bs.length ≤ 70368744177600) (hf : v < 256 ^ m) :
    Calls Try.prog 26 #[.pointer (some ⟨p, 0, none⟩), .int .u64 v, .int .i64 m] w (Wrote w p (bs ++ leb m v, 0)) := by
  have hq := wshift_zero hf
  clear hf
  go_enter Try.func26, Try.ntmps26
  go_wp2_with (first
    | (go_at_call 34; refine (wready_ok p bs _ h).mono ?_; rintro e w' ⟨rfl, rfl⟩)
    | (go_at_call 35; refine (isWidth_yes _ _ (by omega)).mono ?_; rintro e w' ⟨rfl, rfl⟩)
    | (go_at_call 38; refine (lay_any v m _ (by omega) hv).mono ?_; rintro e w1 ⟨rfl, hb⟩; have h' := h.below hb)
    | (go_at_call 37; refine (wput_any p bs (str (leb m v)) _ h' (by rw [str_size, leb_length]; omega)).mono ?_; rintro e w2 ⟨rfl, hw⟩))
  go_ret
  rw [str_list] at hw
  exact ⟨rfl, hw.1, (Only.of_below p hb).trans hw.2⟩
theorem wnum_any (p : Nat) (bs : List UInt8) (e : Int) (v : Nat) (n : Int) (w : World) (h : Wr w p bs e) (hv : (v : Int) < 18446744073709551616) (hl : bs.length ≤ 70368744177600) :
    Calls Try.prog 26 #[.pointer (some ⟨p, 0, none⟩), .int .u64 v, .int .i64 n] w (Wrote w p (wnum v n bs e)) := by
  by_cases he : e = 0
  · subst he
    by_cases hn : 1 ≤ n ∧ n ≤ 8
    · obtain ⟨m, rfl⟩ := Int.eq_ofNat_of_zero_le (show 0 ≤ n by omega)
      by_cases hf : v < 256 ^ m
      · rw [show wnum v m bs 0 = (bs ++ leb m v, 0) by simp [wnum, hn, hf]]
        exact wnum_fits p bs v m w h (by omega) (by omega) hv hl hf
      · rw [show wnum v m bs 0 = ([], 1) by simp [wnum, hf]]
        refine wnum_more p bs v m w h (by omega) ?_ hf
        by_cases h8 : m < 8
        · exact h8
        · obtain rfl : m = 8 := by omega
          exact absurd (show v < 256 ^ 8 by omega) hf
    · rw [show wnum v n bs 0 = ([], 1) by simp [wnum, hn]]
      exact wnum_width p bs v n w h hn
  · rw [show wnum v n bs e = (bs, e) by simp [wnum, he]]
    exact wnum_bad p bs e v n w h he

theorem wrap_u64_nat (v : Int) : IntKind.u64.wrap v = ((v % 18446744073709551616).toNat : Int) := by
  rw [IntKind.wrap_u64]; omega
/-- An int as a number without a sign. -/
def unsig (v : Int) : Nat := (v % 18446744073709551616).toNat
theorem unsig_lt (v : Int) : (unsig v : Int) < 18446744073709551616 := by unfold unsig; omega
theorem wrepeat_zero : ∀ n, Lib.repeatL [(0 : UInt8)] n = List.replicate n 0
  | 0 => rfl
  | n + 1 => by rw [Lib.repeatL, wrepeat_zero n, List.replicate_succ]; rfl
theorem repeat_any (n : Int) (w : World) (h0 : 0 ≤ n) (h1 : n ≤ 60000) : Calls Try.prog 39 #[.string { data := #[0] }, .int .i64 n] w fun e w' => e = .returned (.string (str (List.replicate n.toNat 0))) ∧ Below w.heap.size w w' := by
  obtain ⟨k, rfl⟩ := Int.eq_ofNat_of_zero_le h0
  refine (Try.strings_Repeat { data := #[0] } k w (by omega) (by show 1 * k ≤ _; omega)).mono fun e w' ⟨he, hw⟩ => ⟨?_, hw⟩
  rw [he, show ({ data := #[0] } : ByteArray).data.toList = [0] from rfl, wrepeat_zero]
  rfl
end Go.Proofs.Ytjjjflmpindncaa
