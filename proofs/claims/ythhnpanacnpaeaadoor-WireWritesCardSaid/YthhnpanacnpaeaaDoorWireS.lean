/- Package wire: NewReader and Num, Int, Text, Flag, Skip, Count, Err, End of a Reader: what each answers and leaves. -/
import Derived.Test.YthhnpanacnpaeaaDoorWireR
import Derived.Test.YthhnpanacnpaeaaDoorShelf
namespace Go.Proofs.YthhnpanacnpaeaaDoor
open Go Go.RowKit
set_option maxRecDepth 100000

/-- A call of a Reader that answers v and leaves these bytes and this error. -/
def Got (w : World) (p : Nat) (v : Value) (s : List UInt8 × Int) (r : Ending) (w' : World) : Prop := r = .returned v ∧ Rd w' p s.1 s.2 ∧ Only p w w'

def rnum (n : Int) (s : List UInt8) (e : Int) : Nat × List UInt8 × Int :=
  if e = 0 then (if 1 ≤ n ∧ n ≤ 8 then (if n ≤ s.length then (unleb (s.take n.toNat), s.drop n.toNat, 0) else (0, [], 5)) else (0, [], 1)) else (0, s, e)
def rcount (most : Int) (s : List UInt8) (e : Int) : Nat × List UInt8 × Int :=
  if (rnum 2 s e).2.2 = 0 ∧ most < (rnum 2 s e).1 then (0, [], 2) else rnum 2 s e
def rtext (room : Int) (s : List UInt8) (e : Int) : List UInt8 × List UInt8 × Int :=
  if e = 0 then (if 0 ≤ room ∧ room ≤ 60000 then
      (if (rcount room s e).2.1.length < (rcount room s e).1 then ([], [], 5) else ((rcount room s e).2.1.take (rcount room s e).1, (rcount room s e).2.1.drop (rcount room s e).1, (rcount room s e).2.2))
    else ([], [], 1)) else ([], s, e)
def rflag (s : List UInt8) (e : Int) : Bool × List UInt8 × Int :=
  if 1 < (rnum 1 s e).1 then (false, [], 4) else (decide ((rnum 1 s e).1 = 1), (rnum 1 s e).2)
def zeros (s : List UInt8) : Bool := s.all (· == 0)
def rskip (n : Int) (s : List UInt8) (e : Int) : List UInt8 × Int :=
  if e = 0 then (if 0 ≤ n then (if n ≤ s.length then (if zeros (s.take n.toNat) then (s.drop n.toNat, 0) else ([], 4)) else ([], 5)) else ([], 1)) else (s, e)
def rend (s : List UInt8) (e : Int) : Int := if e = 0 then (if zeros s then 0 else 4) else e

theorem Rd.below {w w' : World} {p : Nat} {s : List UInt8} {e : Int} (h : Rd w p s e) (hb : Below w.heap.size w w') : Rd w' p s e := Sits.below' h hb

theorem newreader_any (s : ByteArray) (w : World) : Calls Tryd.prog 24 #[.string s] w fun r w' => r = .returned (.pointer (some ⟨w.heap.size, 0, none⟩)) ∧ Rd w' w.heap.size s.data.toList 0 ∧ Below w.heap.size w w' := by
  go_enter Tryd.func24, Tryd.ntmps24
  go_wp2
  go_ret
  refine ⟨rfl, ?_, (Below.refl _ _).alloc (Nat.le_refl _) _⟩
  rw [Rd, str_of]
  exact Sits.fresh w _ _

theorem countByte_zero (s : List UInt8) (n : Nat) (hn : n = s.length) : (((Lib.countByte s 0 : Nat) : Int) == (n : Int)) = zeros s := by
  rw [Bool.eq_iff_iff, hn]
  simp only [beq_iff_eq, zeros, List.all_eq_true]
  rw [show (((Lib.countByte s 0 : Nat) : Int) = (s.length : Int)) ↔ s.count 0 = s.length by rw [Lib.countByte]; omega, List.count_eq_length]
  exact ⟨fun h b hb => (h b hb).symm, fun h b hb => (h b hb).symm⟩

theorem isZeros_any (s : List UInt8) (w : World) (hl : s.length ≤ 70368744177664) : Calls Tryd.prog 58 #[.string (str s)] w fun r w' => r = .returned (.bool (zeros s)) ∧ w = w' := by
  have hz := str_size s
  have hle : (str s).size ≤ 70368744177664 := by omega
  have HZ := Lib.hid hz
  clear hz
  go_enter Tryd.func58, Tryd.ntmps58
  go_wp2_with (go_at_call 70; refine (Tryd.strings_Count_one (str s) 0 _).mono ?_; rintro e w' ⟨rfl, rfl⟩)
  go_ret
  refine ⟨?_, rfl⟩
  have := countByte_zero s _ HZ.out
  rw [str_list]
  simp only [Array.getD_eq_getD_getElem?]
  exact congrArg (fun b => Ending.returned (Value.bool b)) this
theorem rnum_nil (n : Int) (w : World) : Calls Tryd.prog 25 #[.pointer none, .int .i64 n] w fun r w' => r = .returned (.int .u64 0) ∧ w = w' := by
  go_enter Tryd.func25, Tryd.ntmps25
  go_wp2_with (go_at_call 51; refine (rready_nil _).mono ?_; rintro e w' ⟨rfl, rfl⟩)
  go_ret
  exact ⟨rfl, rfl⟩

theorem rnum_any (p : Nat) (s : List UInt8) (e n : Int) (w : World) (h : Rd w p s e) (hl : s.length ≤ 70368744177664) :
    Calls Tryd.prog 25 #[.pointer (some ⟨p, 0, none⟩), .int .i64 n] w (Got w p (.int .u64 (rnum n s e).1) (rnum n s e).2) := by
  have c0 := h.cell 0
  have hz := str_size s
  by_cases he : e = 0
  · subst he
    by_cases hn : 1 ≤ n ∧ n ≤ 8
    · obtain ⟨m, rfl⟩ := Int.eq_ofNat_of_zero_le (show 0 ≤ n by omega)
      by_cases hf : (m : Int) ≤ s.length
      · rw [show rnum m s 0 = (unleb (s.take m), s.drop m, 0) by simp [rnum, hn, hf]]
        have hle : m ≤ (str s).size := by omega
        have hs8 : (str s).size ≤ 70368744177664 := by omega
        have hm8 : m ≤ 8 := by omega
        have hm1 : 1 ≤ m := by omega
        have HF := Lib.hid hf
        clear hf hn hz
        go_enter Tryd.func25, Tryd.ntmps25
        go_wp2_with (first
          | (go_at_call 51; refine (rready_ok p s _ h).mono ?_; rintro e w' ⟨rfl, rfl⟩)
          | (go_at_call 44; refine (isWidth_yes _ _ (by omega)).mono ?_; rintro e w' ⟨rfl, rfl⟩)
          | (go_at_call 54; refine (rtake_any p m s 0 _ h (by have := HF.out; omega) hl).mono ?_; rintro e w1 ⟨rfl, h1, ho⟩)
          | (go_at_call 53; refine (laid_any _ _ (by rw [List.length_take]; omega)).mono ?_; rintro e w2 ⟨rfl, rfl⟩))
        go_ret
        exact ⟨rfl, h1, ho⟩
      · rw [show rnum m s 0 = (0, [], 5) by simp [rnum, hn, hf]]
        have hgt : (str s).size < m := by omega
        have hm8 : m ≤ 8 := by omega
        have hm1 : 1 ≤ m := by omega
        clear hf hn hz
        go_enter Tryd.func25, Tryd.ntmps25
        go_wp2_with (first
          | (go_at_call 51; refine (rready_ok p s _ h).mono ?_; rintro e w' ⟨rfl, rfl⟩)
          | (go_at_call 44; refine (isWidth_yes _ _ (by omega)).mono ?_; rintro e w' ⟨rfl, rfl⟩)
          | (go_at_call 52; refine (rfail_any p s 0 5 _ h).mono ?_; rintro e w1 ⟨rfl, h1, ho⟩))
        go_ret
        exact ⟨rfl, h1, ho⟩
    · rw [show rnum n s 0 = (0, [], 1) by simp [rnum, hn]]
      have HN := Lib.hid hn
      clear hn hz
      go_enter Tryd.func25, Tryd.ntmps25
      go_wp2_with (first
        | (go_at_call 51; refine (rready_ok p s _ h).mono ?_; rintro e w' ⟨rfl, rfl⟩)
        | (go_at_call 44; refine (isWidth_no _ _ HN.out).mono ?_; rintro e w' ⟨rfl, rfl⟩)
        | (go_at_call 52; refine (rfail_any p s 0 1 _ h).mono ?_; rintro e w1 ⟨rfl, h1, ho⟩))
      go_ret
      exact ⟨rfl, h1, ho⟩
  · rw [show rnum n s e = (0, s, e) by simp [rnum, he]]
    have HE := Lib.hid he
    clear he hz
    go_enter Tryd.func25, Tryd.ntmps25
    go_wp2_with (go_at_call 51; refine (rready_bad p s e _ h HE.out).mono ?_; rintro e w' ⟨rfl, rfl⟩)
    go_ret
    exact ⟨rfl, h, Only.refl p w⟩

theorem rnum_lt (n : Int) (s : List UInt8) (e : Int) : (rnum n s e).1 < 18446744073709551616 := by
  unfold rnum
  split
  · split
    · split
      · have h := unleb_lt (s.take n.toNat)
        have hp : (256 : Nat) ^ (s.take n.toNat).length ≤ 256 ^ 8 := Nat.pow_le_pow_right (by omega) (by rw [List.length_take]; omega)
        have h8 : (256 : Nat) ^ 8 = 18446744073709551616 := by decide
        show unleb (s.take n.toNat) < _
        omega
      · decide
    · decide
  · show 0 < _
    omega
theorem rnum_two (s : List UInt8) (e : Int) : (rnum 2 s e).1 < 65536 := by
  unfold rnum
  split
  · rw [if_pos (by omega)]
    split
    · have h := unleb_lt (s.take 2)
      have hp : (256 : Nat) ^ (s.take 2).length ≤ 256 ^ 2 := Nat.pow_le_pow_right (by omega) (by rw [List.length_take]; omega)
      have h8 : (256 : Nat) ^ 2 = 65536 := by decide
      show unleb (s.take 2) < _
      omega
    · decide
  · show 0 < _
    omega
theorem rnum_len (n : Int) (s : List UInt8) (e : Int) : (rnum n s e).2.1.length ≤ s.length := by
  unfold rnum
  split
  · split
    · split <;> simp
    · simp
  · simp
theorem rint_nil (w : World) : Calls Tryd.prog 27 #[.pointer none] w fun r w' => r = .returned (.int .i64 0) ∧ w = w' := by
  go_enter Tryd.func27, Tryd.ntmps27
  go_wp2_with (go_at_call 25; refine (rnum_nil _ _).mono ?_; rintro e w' ⟨rfl, rfl⟩)
  go_ret
  exact ⟨rfl, rfl⟩
theorem rint_any (p : Nat) (s : List UInt8) (e : Int) (w : World) (h : Rd w p s e) (hl : s.length ≤ 70368744177664) :
    Calls Tryd.prog 27 #[.pointer (some ⟨p, 0, none⟩)] w (Got w p (.int .i64 (wrap64 (rnum 8 s e).1)) (rnum 8 s e).2) := by
  obtain ⟨x, hx⟩ : ∃ x, x = rnum 8 s e := ⟨_, rfl⟩
  have hn := rnum_any p s e 8 w h hl
  rw [← hx] at hn ⊢
  have HN := Lib.hid hn
  clear hn hx
  go_enter Tryd.func27, Tryd.ntmps27
  go_wp2_with (go_at_call 25; refine HN.out.mono ?_; rintro e w' ⟨rfl, h', ho⟩)
  go_ret
  exact ⟨rfl, h', ho⟩
theorem rcount_nil (most : Int) (w : World) : Calls Tryd.prog 34 #[.pointer none, .int .i64 most] w fun r w' => r = .returned (.int .i64 0) ∧ w = w' := by
  go_enter Tryd.func34, Tryd.ntmps34
  go_wp2_with (first
    | (go_at_call 25; refine (rnum_nil _ _).mono ?_; rintro e w' ⟨rfl, rfl⟩)
    | (go_at_call 51; refine (rready_nil _).mono ?_; rintro e w' ⟨rfl, rfl⟩))
  go_ret
  exact ⟨rfl, rfl⟩
theorem rcount_any (p : Nat) (s : List UInt8) (e most : Int) (w : World) (h : Rd w p s e) (hl : s.length ≤ 70368744177664) :
    Calls Tryd.prog 34 #[.pointer (some ⟨p, 0, none⟩), .int .i64 most] w (Got w p (.int .i64 (rcount most s e).1) (rcount most s e).2) := by
  have hn := rnum_any p s e 2 w h hl
  have h2 := rnum_two s e
  unfold rcount
  generalize rnum 2 s e = x at *
  obtain ⟨n, s1, e1⟩ := x
  have HN := Lib.hid hn
  clear hn
  simp only at h2
  by_cases he : e1 = 0
  · subst he
    by_cases hm : most < (n : Int)
    · rw [if_pos ⟨rfl, hm⟩]
      go_enter Tryd.func34, Tryd.ntmps34
      go_wp2_with (first
        | (go_at_call 25; refine HN.out.mono ?_; rintro e w1 ⟨rfl, h1, ho⟩)
        | (go_at_call 51; refine (rready_ok p s1 _ h1).mono ?_; rintro e w2 ⟨rfl, rfl⟩)
        | (go_at_call 52; refine (rfail_any p s1 0 2 _ h1).mono ?_; rintro e w3 ⟨rfl, h2, ho2⟩))
      go_ret
      exact ⟨rfl, h2, ho.trans ho2⟩
    · rw [if_neg (fun h => hm h.2)]
      have hm : (n : Int) ≤ most := by omega
      go_enter Tryd.func34, Tryd.ntmps34
      go_wp2_with (first
        | (go_at_call 25; refine HN.out.mono ?_; rintro e w1 ⟨rfl, h1, ho⟩)
        | (go_at_call 51; refine (rready_ok p s1 _ h1).mono ?_; rintro e w2 ⟨rfl, rfl⟩))
      go_ret
      exact ⟨rfl, h1, ho⟩
  · rw [if_neg (fun h => he h.1)]
    have HE := Lib.hid he
    clear he
    go_enter Tryd.func34, Tryd.ntmps34
    go_wp2_with (first
      | (go_at_call 25; refine HN.out.mono ?_; rintro e w1 ⟨rfl, h1, ho⟩)
      | (go_at_call 51; refine (rready_bad p s1 e1 _ h1 HE.out).mono ?_; rintro e w2 ⟨rfl, rfl⟩))
    go_ret
    exact ⟨rfl, h1, ho⟩
theorem rcount_lt (most : Int) (s : List UInt8) (e : Int) : (rcount most s e).1 < 65536 := by
  have h := rnum_two s e
  unfold rcount
  split
  · decide
  · exact h
theorem rcount_len (most : Int) (s : List UInt8) (e : Int) : (rcount most s e).2.1.length ≤ s.length := by
  have h := rnum_len 2 s e
  unfold rcount
  split
  · simp
  · exact h
theorem rtext_nil (room : Int) (w : World) : Calls Tryd.prog 28 #[.pointer none, .int .i64 room] w fun r w' => r = .returned (.string (str [])) ∧ w = w' := by
  go_enter Tryd.func28, Tryd.ntmps28
  go_wp2_with (go_at_call 51; refine (rready_nil _).mono ?_; rintro e w' ⟨rfl, rfl⟩)
  go_ret
  exact ⟨rfl, rfl⟩
theorem clone_any (s : ByteArray) (w : World) (hl : s.size ≤ 281474976710656) : Calls Tryd.prog 57 #[.string s] w fun r w' => r = .returned (.string s) ∧ Below w.heap.size w w' := by
  go_enter Tryd.func57, Tryd.ntmps57
  go_wp2_with (go_at_call 69; refine (Tryd.stringslite_Clone s _ hl).mono ?_; rintro e w' ⟨rfl, hb⟩)
  go_ret
  exact ⟨rfl, hb⟩
theorem rtext_any (p : Nat) (s : List UInt8) (e room : Int) (w : World) (h : Rd w p s e) (hl : s.length ≤ 70368744177664) :
    Calls Tryd.prog 28 #[.pointer (some ⟨p, 0, none⟩), .int .i64 room] w (Got w p (.string (str (rtext room s e).1)) (rtext room s e).2) := by
  unfold rtext
  by_cases he : e = 0
  · subst he
    rw [if_pos rfl]
    by_cases hr : 0 ≤ room ∧ room ≤ 60000
    · rw [if_pos hr]
      have hn := rcount_any p s 0 room w h hl
      have h2 := rcount_lt room s 0
      have h3 := rcount_len room s 0
      generalize rcount room s 0 = x at *
      obtain ⟨n, s1, e1⟩ := x
      simp only at h2 h3 ⊢
      have hz := str_size s1
      have HN := Lib.hid hn
      have HR := Lib.hid hr
      clear hn hr
      by_cases hm : s1.length < n
      · rw [if_pos hm]
        have hgt : (str s1).size < n := by omega
        clear hz hm
        go_enter Tryd.func28, Tryd.ntmps28
        go_wp2_with (first
          | (go_at_call 51; refine (rready_ok p s _ h).mono ?_; rintro e w2 ⟨rfl, rfl⟩)
          | (go_at_call 49; refine (isRoom_yes _ _ HR.out).mono ?_; rintro e w' ⟨rfl, rfl⟩)
          | (go_at_call 34; refine HN.out.mono ?_; rintro e w1 ⟨rfl, h1, ho⟩; have c1 := h1.cell 0; simp only at h1)
          | (go_at_call 52; refine (rfail_any p s1 e1 5 _ h1).mono ?_; rintro e w3 ⟨rfl, h2, ho2⟩))
        go_ret
        exact ⟨rfl, h2, ho.trans ho2⟩
      · rw [if_neg hm]
        have hgt : n ≤ (str s1).size := by omega
        have hs8 : (str s1).size ≤ 70368744177664 := by omega
        have HM := Lib.hid hm
        clear hz hm
        go_enter Tryd.func28, Tryd.ntmps28
        go_wp2_with (first
          | (go_at_call 51; refine (rready_ok p s _ h).mono ?_; rintro e w2 ⟨rfl, rfl⟩)
          | (go_at_call 49; refine (isRoom_yes _ _ HR.out).mono ?_; rintro e w' ⟨rfl, rfl⟩)
          | (go_at_call 34; refine HN.out.mono ?_; rintro e w1 ⟨rfl, h1, ho⟩; have c1 := h1.cell 0; simp only at h1)
          | (go_at_call 54; refine (rtake_any p n s1 e1 _ h1 (by have := HM.out; omega) (by omega)).mono ?_; rintro e w3 ⟨rfl, h2, ho2⟩)
          | (go_at_call 57; refine (clone_any _ _ (by rw [str_size, List.length_take]; omega)).mono ?_; rintro e w4 ⟨rfl, hb⟩))
        go_ret
        exact ⟨rfl, h2.below hb, (ho.trans ho2).then hb⟩
    · rw [if_neg hr]
      have HR := Lib.hid hr
      clear hr
      go_enter Tryd.func28, Tryd.ntmps28
      go_wp2_with (first
        | (go_at_call 51; refine (rready_ok p s _ h).mono ?_; rintro e w2 ⟨rfl, rfl⟩)
        | (go_at_call 49; refine (isRoom_no _ _ HR.out).mono ?_; rintro e w' ⟨rfl, rfl⟩)
        | (go_at_call 52; refine (rfail_any p s 0 1 _ h).mono ?_; rintro e w3 ⟨rfl, h2, ho2⟩))
      go_ret
      exact ⟨rfl, h2, ho2⟩
  · rw [if_neg he]
    have HE := Lib.hid he
    clear he
    go_enter Tryd.func28, Tryd.ntmps28
    go_wp2_with (go_at_call 51; refine (rready_bad p s e _ h HE.out).mono ?_; rintro e w' ⟨rfl, rfl⟩)
    go_ret
    exact ⟨rfl, h, Only.refl p w⟩

theorem rflag_nil (w : World) : Calls Tryd.prog 30 #[.pointer none] w fun r w' => r = .returned (.bool false) ∧ w = w' := by
  go_enter Tryd.func30, Tryd.ntmps30
  go_wp2_with (go_at_call 25; refine (rnum_nil _ _).mono ?_; rintro e w' ⟨rfl, rfl⟩)
  go_ret
  exact ⟨rfl, rfl⟩
theorem rflag_any (p : Nat) (s : List UInt8) (e : Int) (w : World) (h : Rd w p s e) (hl : s.length ≤ 70368744177664) :
    Calls Tryd.prog 30 #[.pointer (some ⟨p, 0, none⟩)] w (Got w p (.bool (rflag s e).1) (rflag s e).2) := by
  have hn := rnum_any p s e 1 w h hl
  unfold rflag
  generalize rnum 1 s e = x at *
  obtain ⟨n, s1, e1⟩ := x
  have HN := Lib.hid hn
  clear hn
  simp only
  by_cases hm : 1 < n
  · rw [if_pos hm]
    go_enter Tryd.func30, Tryd.ntmps30
    go_wp2_with (first
      | (go_at_call 25; refine HN.out.mono ?_; rintro e w1 ⟨rfl, h1, ho⟩; simp only at h1)
      | (go_at_call 52; refine (rfail_any p s1 e1 4 _ h1).mono ?_; rintro e w3 ⟨rfl, h2, ho2⟩))
    go_ret
    exact ⟨rfl, h2, ho.trans ho2⟩
  · rw [if_neg hm]
    have hm : n ≤ 1 := by omega
    go_enter Tryd.func30, Tryd.ntmps30
    go_wp2_with (go_at_call 25; refine HN.out.mono ?_; rintro e w1 ⟨rfl, h1, ho⟩; simp only at h1)
    go_ret
    refine ⟨?_, h1, ho⟩
    show Ending.returned (.bool ((n : Int) == 1)) = _
    rw [show ((n : Int) == 1) = decide (n = 1) by rw [Bool.eq_iff_iff]; simp; omega]
theorem rskip_nil (n : Int) (w : World) : Calls Tryd.prog 32 #[.pointer none, .int .i64 n] w fun r w' => r = .returned (.tuple #[]) ∧ w = w' := by
  go_enter Tryd.func32, Tryd.ntmps32
  go_wp2_with (go_at_call 51; refine (rready_nil _).mono ?_; rintro e w' ⟨rfl, rfl⟩)
  go_returns
  exact ⟨rfl, rfl⟩
theorem isZeros_at (s : List UInt8) (b : Bool) (w : World) (hl : s.length ≤ 70368744177664) (hb : zeros s = b) : Calls Tryd.prog 58 #[.string (str s)] w fun r w' => r = .returned (.bool b) ∧ w = w' := by
  subst hb
  exact isZeros_any s w hl
theorem rskip_any (p : Nat) (s : List UInt8) (e n : Int) (w : World) (h : Rd w p s e) (hl : s.length ≤ 70368744177664) :
    Calls Tryd.prog 32 #[.pointer (some ⟨p, 0, none⟩), .int .i64 n] w (Got w p (.tuple #[]) (rskip n s e)) := by
  have c0 := h.cell 0
  have hz := str_size s
  by_cases he : e = 0
  · subst he
    by_cases hn : 0 ≤ n
    · obtain ⟨m, rfl⟩ := Int.eq_ofNat_of_zero_le hn
      have hs8 : (str s).size ≤ 70368744177664 := by omega
      by_cases hf : (m : Int) ≤ s.length
      · have hle : m ≤ (str s).size := by omega
        have hcut : (str s).extract 0 m = str (s.take m) := by rw [str_extract, List.drop_zero]
        have hlt : (s.take m).length ≤ 70368744177664 := by rw [List.length_take]; omega
        cases hzz : zeros (s.take m)
        · rw [show rskip m s 0 = ([], 4) by simp [rskip, hf, hzz]]
          have HZ := Lib.hid hzz
          clear hf hn hz hzz
          go_enter Tryd.func32, Tryd.ntmps32
          go_wp2_with (first
            | (go_at_call 51; refine (rready_ok p s _ h).mono ?_; rintro e w' ⟨rfl, rfl⟩)
            | (go_at_call 58; refine (isZeros_at _ false _ hlt HZ.out).mono ?_; rintro e w' ⟨rfl, rfl⟩)
            | (go_at_call 52; refine (rfail_any p s 0 4 _ h).mono ?_; rintro e w1 ⟨rfl, h1, ho⟩))
          go_returns
          exact ⟨rfl, h1, ho⟩
        · rw [show rskip m s 0 = (s.drop m, 0) by simp [rskip, hf, hzz]]
          have HZ := Lib.hid hzz
          have HF := Lib.hid hf
          clear hf hn hz hzz
          go_enter Tryd.func32, Tryd.ntmps32
          go_wp2_with (first
            | (go_at_call 51; refine (rready_ok p s _ h).mono ?_; rintro e w' ⟨rfl, rfl⟩)
            | (go_at_call 58; refine (isZeros_at _ true _ hlt HZ.out).mono ?_; rintro e w' ⟨rfl, rfl⟩)
            | (go_at_call 54; refine (rtake_any p m s 0 _ h (by have := HF.out; omega) hl).mono ?_; rintro e w1 ⟨rfl, h1, ho⟩))
          go_returns
          exact ⟨rfl, h1, ho⟩
      · rw [show rskip m s 0 = ([], 5) by simp [rskip, hf]]
        have hgt : (str s).size < m := by omega
        clear hf hn hz
        go_enter Tryd.func32, Tryd.ntmps32
        go_wp2_with (first
          | (go_at_call 51; refine (rready_ok p s _ h).mono ?_; rintro e w' ⟨rfl, rfl⟩)
          | (go_at_call 52; refine (rfail_any p s 0 5 _ h).mono ?_; rintro e w1 ⟨rfl, h1, ho⟩))
        go_returns
        exact ⟨rfl, h1, ho⟩
    · rw [show rskip n s 0 = ([], 1) by simp [rskip, hn]]
      have hn : n < 0 := by omega
      clear hz
      go_enter Tryd.func32, Tryd.ntmps32
      go_wp2_with (first
        | (go_at_call 51; refine (rready_ok p s _ h).mono ?_; rintro e w' ⟨rfl, rfl⟩)
        | (go_at_call 52; refine (rfail_any p s 0 1 _ h).mono ?_; rintro e w1 ⟨rfl, h1, ho⟩))
      go_returns
      exact ⟨rfl, h1, ho⟩
  · rw [show rskip n s e = (s, e) by simp [rskip, he]]
    have HE := Lib.hid he
    clear he hz
    go_enter Tryd.func32, Tryd.ntmps32
    go_wp2_with (go_at_call 51; refine (rready_bad p s e _ h HE.out).mono ?_; rintro e w' ⟨rfl, rfl⟩)
    go_returns
    exact ⟨rfl, h, Only.refl p w⟩
theorem rerr_nil (w : World) : Calls Tryd.prog 36 #[.pointer none] w fun r w' => r = .returned (.int .i64 1) ∧ w = w' := by
  go_enter Tryd.func36, Tryd.ntmps36
  go_wp2
  go_ret
  exact ⟨rfl, rfl⟩
theorem rerr_any (p : Nat) (s : List UInt8) (e : Int) (w : World) (h : Rd w p s e) : Calls Tryd.prog 36 #[.pointer (some ⟨p, 0, none⟩)] w fun r w' => r = .returned (.int .i64 e) ∧ w = w' := by
  have c1 := h.cell 1
  go_enter Tryd.func36, Tryd.ntmps36
  go_wp2
  go_ret
  exact ⟨rfl, rfl⟩
theorem rend_nil (w : World) : Calls Tryd.prog 37 #[.pointer none] w fun r w' => r = .returned (.int .i64 1) ∧ w = w' := by
  go_enter Tryd.func37, Tryd.ntmps37
  go_wp2_with (first
    | (go_at_call 51; refine (rready_nil _).mono ?_; rintro e w' ⟨rfl, rfl⟩)
    | (go_at_call 36; refine (rerr_nil _).mono ?_; rintro e w' ⟨rfl, rfl⟩))
  go_ret
  exact ⟨rfl, rfl⟩
theorem rend_any (p : Nat) (s : List UInt8) (e : Int) (w : World) (h : Rd w p s e) (hl : s.length ≤ 70368744177664) : Calls Tryd.prog 37 #[.pointer (some ⟨p, 0, none⟩)] w fun r w' => r = .returned (.int .i64 (rend s e)) ∧ w = w' := by
  have c0 := h.cell 0
  by_cases he : e = 0
  · subst he
    cases hzz : zeros s
    · rw [show rend s 0 = 4 by simp [rend, hzz]]
      have HZ := Lib.hid hzz
      clear hzz
      go_enter Tryd.func37, Tryd.ntmps37
      go_wp2_with (first
        | (go_at_call 51; refine (rready_ok p s _ h).mono ?_; rintro e w' ⟨rfl, rfl⟩)
        | (go_at_call 58; refine (isZeros_at _ false _ hl HZ.out).mono ?_; rintro e w' ⟨rfl, rfl⟩))
      go_ret
      exact ⟨rfl, rfl⟩
    · rw [show rend s 0 = 0 by simp [rend, hzz]]
      have HZ := Lib.hid hzz
      clear hzz
      go_enter Tryd.func37, Tryd.ntmps37
      go_wp2_with (first
        | (go_at_call 51; refine (rready_ok p s _ h).mono ?_; rintro e w' ⟨rfl, rfl⟩)
        | (go_at_call 58; refine (isZeros_at _ true _ hl HZ.out).mono ?_; rintro e w' ⟨rfl, rfl⟩))
      go_ret
      exact ⟨rfl, rfl⟩
  · rw [show rend s e = e by simp [rend, he]]
    have HE := Lib.hid he
    clear he
    go_enter Tryd.func37, Tryd.ntmps37
    go_wp2_with (first
      | (go_at_call 51; refine (rready_bad p s e _ h HE.out).mono ?_; rintro e w' ⟨rfl, rfl⟩)
      | (go_at_call 36; refine (rerr_any p s e _ h).mono ?_; rintro e w' ⟨rfl, rfl⟩))
    go_ret
    exact ⟨rfl, rfl⟩
end Go.Proofs.YthhnpanacnpaeaaDoor
