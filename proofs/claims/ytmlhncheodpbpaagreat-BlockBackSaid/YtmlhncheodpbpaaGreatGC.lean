/- Package wire: its small helpers, each with what it answers. Package wire: a Reader: laid, take, fail, ready and each of its calls: what it answers and leaves. Package wire: NewReader and Num, Int, Text, Flag, Skip, Count, Err, End of a Reader: what each answers and leaves. Package block, in plain words: an image as the bytes of two sectors, and back. Package wire: a Writer in memory (a chain of pieces), and what fail, put, ready, Num, Int, Text, Flag, Pad answer and leave. Package wire: Num, Int, Text, Flag, Pad of a Writer: what each answers and leaves. Package wire: Bytes of a Writer: the text of all that was put, or the first error; and the zero Writer. -/
import Derived.Test.YtmlhncheodpbpaaGreatRows
import Derived.Test.YtmlhncheodpbpaaGreatGA
import Derived.Laws.BitsAllLaws
import Derived.Test.YtmlhncheodpbpaaGreatShelf
import Derived.Test.YtmlhncheodpbpaaGreatGB
namespace Go.Proofs.YtmlhncheodpbpaaGreat
open Go Go.RowKit
set_option maxRecDepth 100000

/-- lay: the n lowest bytes. -/
theorem lay_any (v n : Nat) (w : World) (h8 : n ≤ 8) (_hv2 : (v : Int) < 18446744073709551616) : Calls Tryz.prog 88 #[.int .u64 v, .int .i64 n] w fun e w' => e = .returned (.string (str (leb n v))) ∧ Below w.heap.size w w' := by
  obtain ⟨i0, hi, hz0, hz1, hz2⟩ := info_parts Tryz.info5
  have hmk := run_make (P := Tryz.prog) w 50 5 i0 _ Tryz.underlying50 hi hz0 .i64 .i64 n n (by omega) (by omega) (by rw [hz2]; omega) (by omega)
  go_enter Tryz.func88, Tryz.ntmps88
  go_wp2
  clear hmk
  go_loopw [11] (fun i wr => ∃ k : Nat, k ≤ n ∧ i = .int .i64 k ∧ Sits wr w.heap.size 5 (byteCells (leb k v ++ List.replicate (n - k) 0)) ∧ Below w.heap.size w wr) (fun i _ => n - (intOf i).toNat)
  case atStart =>
    refine ⟨0, by omega, rfl, ?_, (Below.refl _ _).alloc (Nat.le_refl _) _⟩
    rw [byteCells_made]
    exact Sits.fresh w 5 _
  case round =>
    obtain ⟨k, hk, rfl, hs, hb⟩ := hrel
    have hc : k < n → ∃ x, wr.cell? ⟨w.heap.size, k, none⟩ = some (.int .u8 x) := fun h =>
      ⟨_, (hs.cell k).trans (byteCells_get _ _ (by rw [List.length_append, leb_length]; simp; omega))⟩
    have hf := hs.warm k
    by_cases hlt : k < n
    · obtain ⟨x, hc⟩ := hc hlt
      go_wp2
      go_roundw
      case rel =>
        refine ⟨k + 1, by omega, by go_num, ?_, hb.setCell (Nat.le_refl _) _⟩
        have := hs.put k (.int .u8 (↑v / 2 ^ (8 * k) % 256))
        rw [byte_nat, byteCells_set, leb_step n v k hlt] at this
        rw [byte_nat]
        exact this
      case measure => simp [intOf]; omega
    · have hcv := run_convert_bytes_back (P := Tryz.prog) wr 50 9 5 ⟨w.heap.size, 0, none⟩ n (leb k v) Tryz.underlying50 Tryz.underlying5 Tryz.underlying9 (fun j hj => by
        rw [show (⟨w.heap.size, 0, none⟩ : Addr).add j = ⟨w.heap.size, j, none⟩ by unfold Addr.add; split <;> simp_all]
        rw [hs.cell j, byteCells_get _ _ (by simp; omega)]
        simp [List.getElem_append_left hj])
      rw [leb_length] at hcv
      obtain rfl : k = n := by omega
      go_wp2
      go_ret
      exact ⟨rfl, hb⟩

theorem isWidth_any (n : Int) (w : World) : Calls Tryz.prog 85 #[.int .i64 n] w fun e w' => e = .returned (.bool (decide (1 ≤ n ∧ n ≤ 8))) ∧ w = w' := by
  go_enter Tryz.func85, Tryz.ntmps85
  go_wp2
  all_goals
    go_ret
    refine ⟨?_, rfl⟩
    simp
    omega
theorem isWidth_yes (n : Int) (w : World) (h : 1 ≤ n ∧ n ≤ 8) : Calls Tryz.prog 85 #[.int .i64 n] w fun e w' => e = .returned (.bool true) ∧ w = w' :=
  (isWidth_any n w).mono fun _ _ ⟨he, hw⟩ => ⟨by rw [he, decide_eq_true h], hw⟩
theorem isWidth_no (n : Int) (w : World) (h : ¬(1 ≤ n ∧ n ≤ 8)) : Calls Tryz.prog 85 #[.int .i64 n] w fun e w' => e = .returned (.bool false) ∧ w = w' :=
  (isWidth_any n w).mono fun _ _ ⟨he, hw⟩ => ⟨by rw [he, decide_eq_false h], hw⟩

end Go.Proofs.YtmlhncheodpbpaaGreat
namespace Go.Proofs.YtmlhncheodpbpaaGreat
open Go Go.RowKit
set_option maxRecDepth 100000
/-- At p lies a Reader with the bytes s left and the error e. -/
def Rd (w : World) (p : Nat) (s : List UInt8) (e : Int) : Prop := Sits w p 147 #[.string (str s), .int .i64 e]

theorem rready_nil (w : World) : Calls Tryz.prog 98 #[.pointer none] w fun e w' => e = .returned (.bool false) ∧ w = w' := by
  go_enter Tryz.func98, Tryz.ntmps98
  go_wp2
  go_ret
  exact ⟨rfl, rfl⟩
theorem rready_any (p : Nat) (s : List UInt8) (e : Int) (w : World) (h : Rd w p s e) : Calls Tryz.prog 98 #[.pointer (some ⟨p, 0, none⟩)] w fun r w' => r = .returned (.bool (e == 0)) ∧ w = w' := by
  have c1 := h.cell 1
  go_enter Tryz.func98, Tryz.ntmps98
  go_wp2
  go_ret
  exact ⟨rfl, rfl⟩
theorem rready_ok (p : Nat) (s : List UInt8) (w : World) (h : Rd w p s 0) : Calls Tryz.prog 98 #[.pointer (some ⟨p, 0, none⟩)] w fun r w' => r = .returned (.bool true) ∧ w = w' :=
  rready_any p s 0 w h
theorem rready_bad (p : Nat) (s : List UInt8) (e : Int) (w : World) (h : Rd w p s e) (he : e ≠ 0) : Calls Tryz.prog 98 #[.pointer (some ⟨p, 0, none⟩)] w fun r w' => r = .returned (.bool false) ∧ w = w' :=
  (rready_any p s e w h).mono fun _ _ ⟨hr, hw⟩ => ⟨by rw [hr, beq_eq_false_iff_ne.2 he], hw⟩
theorem rfail_any (p : Nat) (s : List UInt8) (x e : Int) (w : World) (h : Rd w p s x) : Calls Tryz.prog 99 #[.pointer (some ⟨p, 0, none⟩), .int .i64 e] w fun r w' => r = .returned (.tuple #[]) ∧ Rd w' p [] e ∧ Only p w w' := by
  have c0 := h.cell 0
  have c1 := h.cell 1
  have f0 := h.warm 0
  have f1 := h.warm 1
  go_enter Tryz.func99, Tryz.ntmps99
  go_wp2
  go_end0
  exact ⟨rfl, (h.put 0 _).put 1 _, ((Only.refl p w).store 0 _).store 1 _⟩
theorem rtake_any (p n : Nat) (s : List UInt8) (e : Int) (w : World) (h : Rd w p s e) (hn : n ≤ s.length) (hl : s.length ≤ 70368744177664) : Calls Tryz.prog 101 #[.pointer (some ⟨p, 0, none⟩), .int .i64 n] w fun r w' => r = .returned (.string (str (s.take n))) ∧ Rd w' p (s.drop n) e ∧ Only p w w' := by
  have c0 := h.cell 0
  have f0 := h.warm 0
  have hz := str_size s
  have hle : n ≤ (str s).size := by omega
  have hle2 : (str s).size ≤ 70368744177664 := by omega
  clear hz
  go_enter Tryz.func101, Tryz.ntmps101
  go_wp2
  go_ret
  rw [str_extract, str_extract, str_size, List.take_length, List.drop_zero]
  exact ⟨rfl, h.put 0 _, (Only.refl p w).store 0 _⟩
theorem or_step (a c k : Nat) (ha : a < 256 ^ k) (hc : c < 256) (hk : k ≤ 7) :
    bits BinOp.or IntKind.u64 (a : Int) (IntKind.u64.wrap (IntKind.u64.wrap (c : Int) * 2 ^ (8 * k))) = ((a + c * 256 ^ k : Nat) : Int) := by
  have e8 : (256 : Nat) = 2 ^ 8 := rfl
  have hp : (256 : Nat) ^ k ≤ 256 ^ 7 := Nat.pow_le_pow_right (by omega) hk
  have h7 : (256 : Nat) ^ 7 = 72057594037927936 := by decide
  have hm : c * 256 ^ k ≤ 255 * 72057594037927936 := Nat.mul_le_mul (by omega) (by omega)
  have hq : (2 : Int) ^ (8 * k) = ((256 ^ k : Nat) : Int) := by rw [e8, ← Nat.pow_mul]; simp
  have h1 : IntKind.u64.wrap (c : Int) = (c : Int) := by rw [IntKind.wrap_u64]; omega
  have h2 : IntKind.u64.wrap ((c : Int) * ((256 ^ k : Nat) : Int)) = ((c * 256 ^ k : Nat) : Int) := by
    rw [← Int.natCast_mul, IntKind.wrap_u64]; omega
  rw [h1, hq, h2, u64_or_nat _ _ (by omega) (by omega)]
  have := Nat.two_pow_add_eq_or_of_lt (i := 8 * k) (by rw [Nat.pow_mul]; exact ha) c
  rw [Nat.pow_mul, ← e8] at this
  rw [Nat.or_comm, Nat.mul_comm c, ← this, Nat.add_comm]
theorem laid_any (s : List UInt8) (w : World) (hl : s.length ≤ 8) : Calls Tryz.prog 100 #[.string (str s)] w fun r w' => r = .returned (.int .u64 (unleb s)) ∧ w = w' := by
  have hz := str_size s
  have hle : (str s).size ≤ 8 := by omega
  have HZ := Lib.hid hz
  clear hz
  go_enter Tryz.func100, Tryz.ntmps100
  go_wp2
  go_loop [3, 7] (fun v i => ∃ k : Nat, k ≤ (str s).size ∧ i = .int .i64 k ∧ v = .int .u64 (unleb (s.take k))) (fun _ i => (str s).size - (intOf i).toNat)
  case atStart => exact ⟨0, by omega, rfl, rfl⟩
  case round =>
    obtain ⟨k, hk, rfl, rfl⟩ := hrel
    by_cases hlt : k < (str s).size
    · go_wp2
      go_round
      case rel =>
        have hl2 : k < s.length := by rw [← HZ.out]; exact hlt
        refine ⟨k + 1, by omega, by go_num, ?_⟩
        have hu := unleb_lt (s.take k)
        rw [List.length_take, Nat.min_eq_left (by omega)] at hu
        rw [str_get, or_step _ _ _ hu s[k].toNat_lt (by omega), unleb_take s k hl2]
      case measure => simp [intOf]; omega
    · obtain rfl : k = (str s).size := by omega
      go_wp2
      go_ret
      rw [HZ.out, List.take_length]
      exact ⟨rfl, rfl⟩
end Go.Proofs.YtmlhncheodpbpaaGreat
namespace Go.Proofs.YtmlhncheodpbpaaGreat
open Go Go.RowKit
set_option maxRecDepth 100000

/-- A call of a Reader that answers v and leaves these bytes and this error. -/
def Got (w : World) (p : Nat) (v : Value) (s : List UInt8 × Int) (r : Ending) (w' : World) : Prop := r = .returned v ∧ Rd w' p s.1 s.2 ∧ Only p w w'

def rnum (n : Int) (s : List UInt8) (e : Int) : Nat × List UInt8 × Int :=
  if e = 0 then (if 1 ≤ n ∧ n ≤ 8 then (if n ≤ s.length then (unleb (s.take n.toNat), s.drop n.toNat, 0) else (0, [], 5)) else (0, [], 1)) else (0, s, e)
def rcount (most : Int) (s : List UInt8) (e : Int) : Nat × List UInt8 × Int :=
  if (rnum 2 s e).2.2 = 0 ∧ most < (rnum 2 s e).1 then (0, [], 2) else rnum 2 s e
def rtext (room : Int) (s : List UInt8) (e : Int) : List UInt8 × List UInt8 × Int :=
  if e = 0 then (if 0 ≤ room ∧ room ≤ 60000 then
      (if (rcount room s e).2.1.length < (rcount room s e).1 then ([], [], 5) else ((rcount room s e).2.1.take (rcount room s e).1, (rcount room s e).2.1.drop (rcount room s e).1, (rcount room s e).2.2))
    else ([], [], 1)) else ([], s, e)
def rflag (s : List UInt8) (e : Int) : Bool × List UInt8 × Int :=
  if 1 < (rnum 1 s e).1 then (false, [], 4) else (decide ((rnum 1 s e).1 = 1), (rnum 1 s e).2)
def zeros (s : List UInt8) : Bool := s.all (· == 0)
def rskip (n : Int) (s : List UInt8) (e : Int) : List UInt8 × Int :=
  if e = 0 then (if 0 ≤ n then (if n ≤ s.length then (if zeros (s.take n.toNat) then (s.drop n.toNat, 0) else ([], 4)) else ([], 5)) else ([], 1)) else (s, e)
def rend (s : List UInt8) (e : Int) : Int := if e = 0 then (if zeros s then 0 else 4) else e

theorem Rd.below {w w' : World} {p : Nat} {s : List UInt8} {e : Int} (h : Rd w p s e) (hb : Below w.heap.size w w') : Rd w' p s e := Sits.below' h hb

theorem newreader_any (s : ByteArray) (w : World) : Calls Tryz.prog 62 #[.string s] w fun r w' => r = .returned (.pointer (some ⟨w.heap.size, 0, none⟩)) ∧ Rd w' w.heap.size s.data.toList 0 ∧ Below w.heap.size w w' := by
  go_enter Tryz.func62, Tryz.ntmps62
  go_wp2
  go_ret
  refine ⟨rfl, ?_, (Below.refl _ _).alloc (Nat.le_refl _) _⟩
  rw [Rd, str_of]
  exact Sits.fresh w _ _

theorem rnum_nil (n : Int) (w : World) : Calls Tryz.prog 63 #[.pointer none, .int .i64 n] w fun r w' => r = .returned (.int .u64 0) ∧ w = w' := by
  go_enter Tryz.func63, Tryz.ntmps63
  go_wp2_with (go_at_call 98; refine (rready_nil _).mono ?_; rintro e w' ⟨rfl, rfl⟩)
  go_ret
  exact ⟨rfl, rfl⟩

theorem rnum_any (p : Nat) (s : List UInt8) (e n : Int) (w : World) (h : Rd w p s e) (hl : s.length ≤ 70368744177664) :
    Calls Tryz.prog 63 #[.pointer (some ⟨p, 0, none⟩), .int .i64 n] w (Got w p (.int .u64 (rnum n s e).1) (rnum n s e).2) := by
  have c0 := h.cell 0
  have hz := str_size s
  by_cases he : e = 0
  · subst he
    by_cases hn : 1 ≤ n ∧ n ≤ 8
    · obtain ⟨m, rfl⟩ := Int.eq_ofNat_of_zero_le (show 0 ≤ n by omega)
      by_cases hf : (m : Int) ≤ s.length
      · rw [show rnum m s 0 = (unleb (s.take m), s.drop m, 0) by simp [rnum, hn, hf]]
        have hle : m ≤ (str s).size := by omega
        have hs8 : (str s).size ≤ 70368744177664 := by omega
        have hm8 : m ≤ 8 := by omega
        have hm1 : 1 ≤ m := by omega
        have HF := Lib.hid hf
        clear hf hn hz
        go_enter Tryz.func63, Tryz.ntmps63
        go_wp2_with (first
          | (go_at_call 98; refine (rready_ok p s _ h).mono ?_; rintro e w' ⟨rfl, rfl⟩)
          | (go_at_call 85; refine (isWidth_yes _ _ (by omega)).mono ?_; rintro e w' ⟨rfl, rfl⟩)
          | (go_at_call 101; refine (rtake_any p m s 0 _ h (by have := HF.out; omega) hl).mono ?_; rintro e w1 ⟨rfl, h1, ho⟩)
          | (go_at_call 100; refine (laid_any _ _ (by rw [List.length_take]; omega)).mono ?_; rintro e w2 ⟨rfl, rfl⟩))
        go_ret
        exact ⟨rfl, h1, ho⟩
      · rw [show rnum m s 0 = (0, [], 5) by simp [rnum, hn, hf]]
        have hgt : (str s).size < m := by omega
        have hm8 : m ≤ 8 := by omega
        have hm1 : 1 ≤ m := by omega
        clear hf hn hz
        go_enter Tryz.func63, Tryz.ntmps63
        go_wp2_with (first
          | (go_at_call 98; refine (rready_ok p s _ h).mono ?_; rintro e w' ⟨rfl, rfl⟩)
          | (go_at_call 85; refine (isWidth_yes _ _ (by omega)).mono ?_; rintro e w' ⟨rfl, rfl⟩)
          | (go_at_call 99; refine (rfail_any p s 0 5 _ h).mono ?_; rintro e w1 ⟨rfl, h1, ho⟩))
        go_ret
        exact ⟨rfl, h1, ho⟩
    · rw [show rnum n s 0 = (0, [], 1) by simp [rnum, hn]]
      have HN := Lib.hid hn
      clear hn hz
      go_enter Tryz.func63, Tryz.ntmps63
      go_wp2_with (first
        | (go_at_call 98; refine (rready_ok p s _ h).mono ?_; rintro e w' ⟨rfl, rfl⟩)
        | (go_at_call 85; refine (isWidth_no _ _ HN.out).mono ?_; rintro e w' ⟨rfl, rfl⟩)
        | (go_at_call 99; refine (rfail_any p s 0 1 _ h).mono ?_; rintro e w1 ⟨rfl, h1, ho⟩))
      go_ret
      exact ⟨rfl, h1, ho⟩
  · rw [show rnum n s e = (0, s, e) by simp [rnum, he]]
    have HE := Lib.hid he
    clear he hz
    go_enter Tryz.func63, Tryz.ntmps63
    go_wp2_with (go_at_call 98; refine (rready_bad p s e _ h HE.out).mono ?_; rintro e w' ⟨rfl, rfl⟩)
    go_ret
    exact ⟨rfl, h, Only.refl p w⟩

theorem rnum_lt (n : Int) (s : List UInt8) (e : Int) : (rnum n s e).1 < 18446744073709551616 := by
  unfold rnum
  split
  · split
    · split
      · have h := unleb_lt (s.take n.toNat)
        have hp : (256 : Nat) ^ (s.take n.toNat).length ≤ 256 ^ 8 := Nat.pow_le_pow_right (by omega) (by rw [List.length_take]; omega)
        have h8 : (256 : Nat) ^ 8 = 18446744073709551616 := by decide
        show unleb (s.take n.toNat) < _
        omega
      · decide
    · decide
  · show 0 < _
    omega
theorem rnum_two (s : List UInt8) (e : Int) : (rnum 2 s e).1 < 65536 := by
  unfold rnum
  split
  · rw [if_pos (by omega)]
    split
    · have h := unleb_lt (s.take 2)
      have hp : (256 : Nat) ^ (s.take 2).length ≤ 256 ^ 2 := Nat.pow_le_pow_right (by omega) (by rw [List.length_take]; omega)
      have h8 : (256 : Nat) ^ 2 = 65536 := by decide
      show unleb (s.take 2) < _
      omega
    · decide
  · show 0 < _
    omega
theorem rnum_len (n : Int) (s : List UInt8) (e : Int) : (rnum n s e).2.1.length ≤ s.length := by
  unfold rnum
  split
  · split
    · split <;> simp
    · simp
  · simp
theorem rcount_lt (most : Int) (s : List UInt8) (e : Int) : (rcount most s e).1 < 65536 := by
  have h := rnum_two s e
  unfold rcount
  split
  · decide
  · exact h
theorem rcount_len (most : Int) (s : List UInt8) (e : Int) : (rcount most s e).2.1.length ≤ s.length := by
  have h := rnum_len 2 s e
  unfold rcount
  split
  · simp
  · exact h
theorem clone_any (s : ByteArray) (w : World) (hl : s.size ≤ 281474976710656) : Calls Tryz.prog 111 #[.string s] w fun r w' => r = .returned (.string s) ∧ Below w.heap.size w w' := by
  go_enter Tryz.func111, Tryz.ntmps111
  go_wp2_with (go_at_call 115; refine (Tryz.stringslite_Clone s _ hl).mono ?_; rintro e w' ⟨rfl, hb⟩)
  go_ret
  exact ⟨rfl, hb⟩
end Go.Proofs.YtmlhncheodpbpaaGreat
namespace Go.Proofs.YtmlhncheodpbpaaGreat
open Go Go.RowKit
set_option maxRecDepth 100000
set_option linter.unusedSimpArgs false

structure Im where
  b : Int
  v : Nat
  d : List UInt8
def zeroIm : Im := ⟨0, 0, []⟩
def aggI (i : Im) : Value := .agg #[.int .i64 i.b, .int .u64 (i.v : Int), .string (str i.d)]
def blockB (b : Int) : Bool := decide (0 ≤ b) && decide (b < 4096)
def ownL (b : Int) (v : Nat) : List UInt8 := leb 4 b.toNat ++ leb 8 v
def secL (b : Int) (v : Nat) (x : List UInt8) : List UInt8 := (x ++ ownL b v) ++ sum4 (x ++ ownL b v)
def putL (i : Im) : List UInt8 := secL i.b i.v (i.d.take 48) ++ secL i.b i.v (i.d.drop 48)
def okI (i : Im) : Bool := blockB i.b && decide (i.d.length = 96)
def bputF (i : Im) : List UInt8 × Nat := if okI i = true then (putL i, 0) else ([], 1)
def padF (s : List UInt8) : List UInt8 × Nat := if 96 < s.length then ([], 2) else (s ++ List.replicate (96 - s.length) 0, 0)
def soundB (s : List UInt8) : Bool := decide (s.drop 60 = sum4 (s.take 60))
def numOf (s : List UInt8) : Nat := unleb ((s.drop 48).take 4)
def verOf (s : List UInt8) : Nat := unleb ((s.drop 52).take 8)
def readS (s : List UInt8) : Im × Nat := if soundB s = true then (⟨numOf s, verOf s, s.take 48⟩, 0) else (zeroIm, 6)
def getF (n : Int) (b : List UInt8) : Im × Nat :=
  if b.length ≠ 128 then (zeroIm, 5)
  else if b = List.replicate 128 0 then (⟨n, 0, List.replicate 96 0⟩, 0)
  else if soundB (b.take 64) = false then (zeroIm, 6)
  else if soundB (b.drop 64) = false then (zeroIm, 6)
  else if blockB n = false ∨ (numOf (b.take 64) : Int) ≠ n ∨ (numOf (b.drop 64) : Int) ≠ n then (zeroIm, 4)
  else if verOf (b.take 64) ≠ verOf (b.drop 64) then (zeroIm, 6)
  else (⟨n, verOf (b.take 64), b.take 48 ++ (b.drop 64).take 48⟩, 0)

theorem blockB_iff {b : Int} : blockB b = true ↔ 0 ≤ b ∧ b < 4096 := by simp [blockB]
theorem okI_iff {i : Im} : okI i = true ↔ (0 ≤ i.b ∧ i.b < 4096) ∧ i.d.length = 96 := by simp [okI, blockB]
theorem ownL_len (b : Int) (v : Nat) : (ownL b v).length = 12 := by simp [ownL, leb_length]
theorem secL_len (b : Int) (v : Nat) {x : List UInt8} (h : x.length = 48) : (secL b v x).length = 64 := by simp [secL, ownL_len, sum4_length, h]
theorem putL_len {i : Im} (h : i.d.length = 96) : (putL i).length = 128 := by
  rw [putL, List.length_append, secL_len _ _ (by rw [List.length_take]; omega), secL_len _ _ (by rw [List.length_drop]; omega)]
theorem sec_take60 (b : Int) (v : Nat) {x : List UInt8} (h : x.length = 48) : (secL b v x).take 60 = x ++ ownL b v := by
  rw [secL, List.take_left' (by rw [List.length_append, ownL_len, h])]
theorem sec_drop60 (b : Int) (v : Nat) {x : List UInt8} (h : x.length = 48) : (secL b v x).drop 60 = sum4 (x ++ ownL b v) := by
  rw [secL, List.drop_left' (by rw [List.length_append, ownL_len, h])]
theorem sec_sound (b : Int) (v : Nat) {x : List UInt8} (h : x.length = 48) : soundB (secL b v x) = true := by
  rw [soundB, sec_take60 b v h, sec_drop60 b v h]
  exact decide_eq_true rfl
theorem sec_take48 (b : Int) (v : Nat) {x : List UInt8} (h : x.length = 48) : (secL b v x).take 48 = x := by
  rw [secL, List.append_assoc, List.take_left' h]
theorem sec_num {b : Int} (hb : 0 ≤ b ∧ b < 4096) (v : Nat) {x : List UInt8} (h : x.length = 48) : (numOf (secL b v x) : Int) = b := by
  rw [numOf, secL, List.append_assoc, List.drop_left' h, ownL, List.append_assoc, List.take_left' (leb_length 4 _), unleb_leb 4 _ (by have h4 : (256 : Nat) ^ 4 = 4294967296 := rfl; omega)]
  omega
theorem sec_ver (b : Int) {v : Nat} (hv : (v : Int) < 18446744073709551616) {x : List UInt8} (h : x.length = 48) : verOf (secL b v x) = v := by
  rw [verOf, secL, ownL, ← List.append_assoc, List.append_assoc _ (leb 8 v), List.drop_left' (by rw [List.length_append, leb_length, h]), List.take_left' (leb_length 8 _), unleb_leb 8 _ (by have h8 : (256 : Nat) ^ 8 = 18446744073709551616 := rfl; omega)]
/-- Sixty bytes 0 have another sum. -/
theorem zero_unsound : sum4 (List.replicate 60 0) ≠ List.replicate 4 0 := by decide +kernel
theorem sound_not_zero {s : List UInt8} (h : soundB s = true) : s ≠ List.replicate 64 0 := by
  rintro rfl
  have h := of_decide_eq_true h
  exact zero_unsound (by simpa using h.symm)
theorem two_not_zero {s t : List UInt8} (hs : s.length = 64) (h : soundB s = true ∨ (t.length = 64 ∧ soundB t = true)) : s ++ t ≠ List.replicate 128 0 := by
  intro e
  rcases h with h | ⟨ht, h⟩
  · have e1 := congrArg (List.take 64) e
    rw [List.take_left' hs] at e1
    exact sound_not_zero h (by simpa using e1)
  · have e1 := congrArg (List.drop 64) e
    rw [List.drop_left' hs] at e1
    exact sound_not_zero h (by simpa using e1)
/-- Two sectors that are sound, as an image. -/
theorem get_two (n : Int) {s t : List UInt8} (hs : s.length = 64) (ht : t.length = 64) (h1 : soundB s = true) (h2 : soundB t = true) :
    getF n (s ++ t) = if blockB n = false ∨ (numOf s : Int) ≠ n ∨ (numOf t : Int) ≠ n then (zeroIm, 4) else if verOf s ≠ verOf t then (zeroIm, 6) else (⟨n, verOf s, s.take 48 ++ t.take 48⟩, 0) := by
  have hz := two_not_zero (t := t) hs (.inl h1)
  unfold getF
  rw [if_neg (by rw [List.length_append]; omega), if_neg hz, List.take_left' hs, List.drop_left' hs, if_neg (by simp [h1]), if_neg (by simp [h2]), List.take_append_of_le_length (by omega)]
theorem get_put {i : Im} (h : okI i = true) (hv : (i.v : Int) < 18446744073709551616) (n : Int) : getF n (putL i) = if n = i.b then (i, 0) else (zeroIm, 4) := by
  obtain ⟨hb, hl⟩ := okI_iff.1 h
  have l1 : (i.d.take 48).length = 48 := by rw [List.length_take]; omega
  have l2 : (i.d.drop 48).length = 48 := by rw [List.length_drop]; omega
  rw [putL, get_two n (secL_len _ _ l1) (secL_len _ _ l2) (sec_sound _ _ l1) (sec_sound _ _ l2), sec_num hb _ l1, sec_num hb _ l2, sec_ver _ hv l1, sec_ver _ hv l2, sec_take48 _ _ l1, sec_take48 _ _ l2, List.take_append_drop]
  by_cases e : n = i.b
  · subst e
    rw [if_neg (by simp [blockB_iff.2 hb]), if_neg (by simp), if_pos rfl]
  · rw [if_pos (.inr (.inl fun h => e h.symm)), if_neg e]
/-- Sectors of two images of one number: told together where the versions are one, torn where they are not. -/
theorem get_mixed {b : Int} (hb : 0 ≤ b ∧ b < 4096) {v u : Nat} (hv : (v : Int) < 18446744073709551616) (hu : (u : Int) < 18446744073709551616) {x y : List UInt8} (hx : x.length = 48) (hy : y.length = 48) :
    getF b (secL b v x ++ secL b u y) = if v ≠ u then (zeroIm, 6) else (⟨b, v, x ++ y⟩, 0) := by
  rw [get_two b (secL_len _ _ hx) (secL_len _ _ hy) (sec_sound _ _ hx) (sec_sound _ _ hy), sec_num hb _ hx, sec_num hb _ hy, sec_ver _ hv hx, sec_ver _ hu hy, sec_take48 _ _ hx, sec_take48 _ _ hy,
    if_neg (by simp [blockB_iff.2 hb])]
theorem sound_set {s : List UInt8} (hl : s.length = 64) (h : soundB s = true) (k : Nat) (hk : k < 64) (x : UInt8) (hx : x ≠ s[k]) : soundB (s.set k x) = false := by
  have h := of_decide_eq_true h
  refine decide_eq_false fun e => ?_
  by_cases h6 : k < 60
  · rw [List.drop_set, if_pos h6, List.take_set, h] at e
    refine sum4_set (s.take 60) k (by rw [List.length_take]; omega) x (fun e => hx ?_) e.symm
    rw [e, List.getElem_take]
  · rw [List.drop_set, if_neg (by omega), List.take_set_of_le (by omega), ← h] at e
    have := congrArg (fun l => l[k - 60]?) e
    simp only [List.getElem?_set_self (show k - 60 < (s.drop 60).length by rw [List.length_drop]; omega), List.getElem?_drop] at this
    rw [show 60 + (k - 60) = k by omega, List.getElem?_eq_getElem (by omega)] at this
    exact hx (Option.some.inj this)
/-- An image of which one byte is changed is none. -/
theorem get_set {i : Im} (h : okI i = true) (n : Int) (k : Nat) (hk : k < 128) (x : UInt8) (hx : (putL i)[k]? ≠ some x) : getF n ((putL i).set k x) = (zeroIm, 6) := by
  obtain ⟨hb, hl⟩ := okI_iff.1 h
  have l1 : (i.d.take 48).length = 48 := by rw [List.length_take]; omega
  have l2 : (i.d.drop 48).length = 48 := by rw [List.length_drop]; omega
  have z1 := secL_len i.b i.v l1
  have z2 := secL_len i.b i.v l2
  have s1 := sec_sound i.b i.v l1
  have s2 := sec_sound i.b i.v l2
  simp only [putL] at hx ⊢
  generalize secL i.b i.v (i.d.take 48) = s at *
  generalize secL i.b i.v (i.d.drop 48) = t at *
  by_cases h6 : k < 64
  · rw [List.getElem?_append_left (by omega), List.getElem?_eq_getElem (by omega)] at hx
    have hu := sound_set z1 s1 k h6 x fun e => hx (congrArg some e.symm)
    rw [List.set_append_left _ _ (by omega)]
    have hz := two_not_zero (s := s.set k x) (t := t) (by rw [List.length_set, z1]) (.inr ⟨z2, s2⟩)
    unfold getF
    rw [if_neg (by rw [List.length_append, List.length_set]; omega), if_neg hz, List.take_left' (by rw [List.length_set, z1]), if_pos hu]
  · rw [List.getElem?_append_right (by omega), z1, List.getElem?_eq_getElem (by omega)] at hx
    have hu := sound_set z2 s2 (k - 64) (by omega) x fun e => hx (congrArg some e.symm)
    rw [List.set_append_right _ _ (by omega), z1]
    have hz := two_not_zero (s := s) (t := t.set (k - 64) x) z1 (.inl s1)
    unfold getF
    rw [if_neg (by rw [List.length_append, List.length_set]; omega), if_neg hz, List.take_left' z1, List.drop_left' z1, if_neg (by simp [s1]), if_pos hu]
theorem getF_err (n : Int) (b : List UInt8) : (getF n b).2 = 0 ∨ (getF n b).1 = zeroIm := by
  unfold getF
  repeat' split
  all_goals simp
/-- sum.Read of one sector. -/
theorem rd_sec {s : List UInt8} (h : s.length = 64) : rdS (str s) = (if soundB s = true then str (s.take 60) else ⟨#[]⟩) ∧ rdE (str s) = if soundB s = true then 0 else 6 := by
  have := rd_str (s.take 60) (s.drop 60) (by rw [List.length_drop]; omega)
  rw [List.take_append_drop] at this
  rw [this.1, this.2]
  unfold soundB
  simp only [decide_eq_true_eq, and_self]
end Go.Proofs.YtmlhncheodpbpaaGreat
namespace Go.Proofs.YtmlhncheodpbpaaGreat
open Go Go.RowKit
set_option maxRecDepth 100000
/-- The chain of pieces from v on, the last one that was put first. -/
def Chain (w : World) : Option Addr → List (List UInt8) → Prop
  | v, [] => v = none
  | v, t :: ts => t ≠ [] ∧ ∃ b q, v = some ⟨b, 0, none⟩ ∧ Sits w b 132 #[.pointer q, .string (str t)] ∧ Chain w q ts
/-- At p lies a Writer that has bytes bs and error e. -/
def Wr (w : World) (p : Nat) (bs : List UInt8) (e : Int) : Prop :=
  ∃ v ts, Sits w p 99 #[.pointer v, .int .i64 bs.length, .int .i64 e] ∧ Chain w v ts ∧ ts.reverse.flatten = bs ∧ (e ≠ 0 → bs = [])

theorem Chain.keep {w w' : World} (hk : ∀ b cs, Sits w b 132 cs → Sits w' b 132 cs) : ∀ {ts : List (List UInt8)} {v : Option Addr}, Chain w v ts → Chain w' v ts
  | [], _, h => h
  | _ :: _, _, ⟨hn, b, q, hv, hs, hc⟩ => ⟨hn, b, q, hv, hk _ _ hs, Chain.keep hk hc⟩
theorem Wr.keep {w w' : World} {p : Nat} {bs : List UInt8} {e : Int} (h : Wr w p bs e) (hk : ∀ b t cs, t = 132 ∨ b = p → Sits w b t cs → Sits w' b t cs) : Wr w' p bs e := by
  obtain ⟨v, ts, hs, hc, r⟩ := h
  exact ⟨v, ts, hk _ _ _ (.inr rfl) hs, hc.keep (fun b cs => hk b 132 cs (.inl rfl)), r⟩
theorem Wr.below {w w' : World} {p : Nat} {bs : List UInt8} {e : Int} (h : Wr w p bs e) (hb : Below w.heap.size w w') : Wr w' p bs e :=
  h.keep fun _ _ _ _ hs => hs.below' hb
theorem Wr.lt {w : World} {p : Nat} {bs : List UInt8} {e : Int} (h : Wr w p bs e) : p < w.heap.size := by
  obtain ⟨v, ts, hs, _⟩ := h
  exact hs.lt
/-- A block of another type that turns leaves the writer. -/
theorem Wr.only {w w' : World} {p q t : Nat} {cs : Array Value} {bs : List UInt8} {e : Int} (h : Wr w p bs e) (ho : Only q w w') (hq : Sits w q t cs) (ht : t ≠ 132) (hqp : q ≠ p) : Wr w' p bs e :=
  h.keep fun b u ds hu hs => hs.only ho (by
    rintro rfl
    rcases hu with rfl | rfl
    · exact (hs.apart hq (fun e => ht e.symm)) rfl
    · exact hqp rfl)
theorem Wr.zero (w : World) : Wr (w.alloc (.cells #[.pointer none, .int .i64 0, .int .i64 0] 99)) w.heap.size [] 0 :=
  ⟨none, [], Sits.fresh w _ _, rfl, rfl, fun _ => rfl⟩

theorem wfail_any (p : Nat) (bs : List UInt8) (x e : Int) (w : World) (h : Wr w p bs x) : Calls Tryz.prog 86 #[.pointer (some ⟨p, 0, none⟩), .int .i64 e] w fun r w' => r = .returned (.pointer (some ⟨p, 0, none⟩)) ∧ Wr w' p [] e ∧ Only p w w' := by
  obtain ⟨v, ts, hs, hc, hf, he⟩ := h
  have c0 := hs.cell 0
  have c1 := hs.cell 1
  have c2 := hs.cell 2
  have f0 := hs.warm 0
  have f1 := hs.warm 1
  have f2 := hs.warm 2
  go_enter Tryz.func86, Tryz.ntmps86
  go_wp2
  go_ret
  exact ⟨rfl, ⟨_, [], ((hs.put 0 _).put 1 _).put 2 _, rfl, rfl, fun _ => rfl⟩, (((Only.refl p w).store 0 _).store 1 _).store 2 _⟩

theorem wput_any (p : Nat) (bs : List UInt8) (s : ByteArray) (w : World) (h : Wr w p bs 0) (hl : bs.length + s.size ≤ 70368744177664) : Calls Tryz.prog 87 #[.pointer (some ⟨p, 0, none⟩), .string s] w fun r w' => r = .returned (.pointer (some ⟨p, 0, none⟩)) ∧ Wr w' p (bs ++ s.data.toList) 0 ∧ Only p w w' := by
  obtain ⟨v, ts, hs, hc, hf, he⟩ := h
  have c0 := hs.cell 0
  have c1 := hs.cell 1
  have f0 := hs.warm 0
  have f1 := hs.warm 1
  have hp := hs.lt
  have he : s.toList = s.data.toList := ByteArray.toList_eq s
  have HE := Lib.hid he
  clear he
  by_cases hz : s.toList = []
  · have hz' : (!s.toList.isEmpty) = false := by simp [hz]
    have HZ := Lib.hid hz
    clear hz
    go_enter Tryz.func87, Tryz.ntmps87
    go_wp2
    go_ret
    rw [HE.out] at HZ
    rw [HZ.out, List.append_nil]
    exact ⟨rfl, ⟨v, ts, hs, hc, hf, fun h => absurd rfl h⟩, Only.refl p w⟩
  · have hz' : (!s.toList.isEmpty) = true := by simp [hz]
    have HZ := Lib.hid hz
    clear hz
    go_enter Tryz.func87, Tryz.ntmps87
    go_wp2
    go_ret
    refine ⟨rfl, ⟨some ⟨w.heap.size, 0, none⟩, s.data.toList :: ts, ?_, ⟨by rw [← HE.out]; exact HZ.out, w.heap.size, v, rfl, ?_, ?_⟩, by simp [hf], fun h => absurd rfl h⟩, (((Only.refl p w).store 0 _).store 1 _).alloc _⟩
    · have := ((hs.put 0 (.pointer (some ⟨w.heap.size, 0, none⟩))).put 1 (.int .i64 (↑bs.length + ↑s.size))).alloc (Obj.cells #[Value.pointer v, Value.string s] 132)
      rw [List.length_append, list_size, Int.natCast_add]
      exact this
    · rw [str_of]
      have := Sits.fresh ((w.setCell ⟨p, 0, none⟩ (.pointer (some ⟨w.heap.size, 0, none⟩))).setCell ⟨p, 1, none⟩ (.int .i64 (↑bs.length + ↑s.size))) 132 #[.pointer v, .string s]
      simpa using this
    · refine hc.keep fun b cs hb => ((hb.away (p := ⟨p, 0, none⟩) ?_ _).away (p := ⟨p, 1, none⟩) ?_ _).alloc _ <;> exact hb.apart hs (by decide)

theorem wready_nil (w : World) : Calls Tryz.prog 84 #[.pointer none] w fun e w' => e = .returned (.bool false) ∧ w = w' := by
  go_enter Tryz.func84, Tryz.ntmps84
  go_wp2
  go_ret
  exact ⟨rfl, rfl⟩
theorem wready_any (p : Nat) (bs : List UInt8) (e : Int) (w : World) (h : Wr w p bs e) : Calls Tryz.prog 84 #[.pointer (some ⟨p, 0, none⟩)] w fun r w' => r = .returned (.bool (e == 0)) ∧ w = w' := by
  obtain ⟨v, ts, hs, _⟩ := h
  have c2 := hs.cell 2
  go_enter Tryz.func84, Tryz.ntmps84
  go_wp2
  go_ret
  exact ⟨rfl, rfl⟩

theorem wready_ok (p : Nat) (bs : List UInt8) (w : World) (h : Wr w p bs 0) : Calls Tryz.prog 84 #[.pointer (some ⟨p, 0, none⟩)] w fun r w' => r = .returned (.bool true) ∧ w = w' :=
  wready_any p bs 0 w h
theorem wready_bad (p : Nat) (bs : List UInt8) (e : Int) (w : World) (h : Wr w p bs e) (he : e ≠ 0) : Calls Tryz.prog 84 #[.pointer (some ⟨p, 0, none⟩)] w fun r w' => r = .returned (.bool false) ∧ w = w' :=
  (wready_any p bs e w h).mono fun _ _ ⟨hr, hw⟩ => ⟨by rw [hr, beq_eq_false_iff_ne.2 he], hw⟩

end Go.Proofs.YtmlhncheodpbpaaGreat
namespace Go.Proofs.YtmlhncheodpbpaaGreat
open Go Go.RowKit
set_option maxRecDepth 100000

/-- What Num makes of bytes and an error. -/
def wnum (v : Nat) (n : Int) (bs : List UInt8) (e : Int) : List UInt8 × Int :=
  if e = 0 then (if (1 ≤ n ∧ n ≤ 8) ∧ v < 256 ^ n.toNat then (bs ++ leb n.toNat v, 0) else ([], 1)) else (bs, e)
/-- What Text makes of bytes and an error. -/
def wtext (s : List UInt8) (room : Int) (bs : List UInt8) (e : Int) : List UInt8 × Int :=
  if e = 0 then (if 0 ≤ room ∧ room ≤ 60000 then (if (s.length : Int) ≤ room then (bs ++ leb 2 s.length ++ s, 0) else ([], 2)) else ([], 1)) else (bs, e)
/-- What Pad makes of bytes and an error. -/
def wpad (n : Int) (bs : List UInt8) (e : Int) : List UInt8 × Int :=
  if e = 0 then (if n ≤ 60000 then (if (bs.length : Int) ≤ n then (bs ++ List.replicate (n.toNat - bs.length) 0, 0) else ([], 2)) else ([], 1)) else (bs, e)

/-- A call that answers its own receiver and leaves it with these bytes and this error. -/
def Wrote (w : World) (p : Nat) (s : List UInt8 × Int) (r : Ending) (w' : World) : Prop := r = .returned (.pointer (some ⟨p, 0, none⟩)) ∧ Wr w' p s.1 s.2 ∧ Only p w w'

theorem wshift_zero {v m : Nat} (h : v < 256 ^ m) : (v : Int) / 2 ^ (8 * m) = 0 := by
  rw [show (256 : Nat) = 2 ^ 8 by rfl, ← Nat.pow_mul] at h
  have : v / 2 ^ (8 * m) = 0 := Nat.div_eq_of_lt h
  have e : ((v / 2 ^ (8 * m) : Nat) : Int) = 0 := by rw [this]; rfl
  simpa using e
theorem wnum_nil (v n : Int) (w : World) : Calls Tryz.prog 54 #[.pointer none, .int .u64 v, .int .i64 n] w fun e w' => e = .returned (.pointer none) ∧ w = w' := by
  go_enter Tryz.func54, Tryz.ntmps54
  go_wp2_with (go_at_call 84; refine (wready_nil _).mono ?_; rintro e w' ⟨rfl, rfl⟩)
  go_ret
  exact ⟨rfl, rfl⟩

theorem wshift_more {v m : Nat} (h : ¬ v < 256 ^ m) : ¬ ((v : Int) / 2 ^ (8 * m) = 0) := by
  rw [show (256 : Nat) = 2 ^ 8 by rfl, ← Nat.pow_mul] at h
  intro e
  have e2 : ((v / 2 ^ (8 * m) : Nat) : Int) = 0 := by simpa using e
  have e3 : v / 2 ^ (8 * m) = 0 := by omega
  rcases Nat.div_eq_zero_iff.1 e3 with h2 | h2
  · exact absurd h2 (by have := Nat.two_pow_pos (8 * m); omega)
  · exact h h2

theorem wnum_bad (p : Nat) (bs : List UInt8) (e v n : Int) (w : World) (h : Wr w p bs e) (he : e ≠ 0) :
    Calls Tryz.prog 54 #[.pointer (some ⟨p, 0, none⟩), .int .u64 v, .int .i64 n] w (Wrote w p (bs, e)) := by
  have HE := Lib.hid he
  clear he
  go_enter Tryz.func54, Tryz.ntmps54
  go_wp2_with (go_at_call 84; refine (wready_bad p bs e _ h HE.out).mono ?_; rintro e w' ⟨rfl, rfl⟩)
  go_ret
  exact ⟨rfl, h, Only.refl p w⟩
theorem wnum_width (p : Nat) (bs : List UInt8) (v n : Int) (w : World) (h : Wr w p bs 0) (hn : ¬(1 ≤ n ∧ n ≤ 8)) :
    Calls Tryz.prog 54 #[.pointer (some ⟨p, 0, none⟩), .int .u64 v, .int .i64 n] w (Wrote w p ([], 1)) := by
  have HN := Lib.hid hn
  clear hn
  go_enter Tryz.func54, Tryz.ntmps54
  go_wp2_with (first
    | (go_at_call 84; refine (wready_ok p bs _ h).mono ?_; rintro e w' ⟨rfl, rfl⟩)
    | (go_at_call 85; refine (isWidth_no _ _ HN.out).mono ?_; rintro e w' ⟨rfl, rfl⟩)
    | (go_at_call 86; refine (wfail_any p bs 0 1 _ h).mono ?_; rintro e w' ⟨rfl, h'⟩))
  go_ret
  exact ⟨rfl, h'⟩
theorem wnum_more (p : Nat) (bs : List UInt8) (v m : Nat) (w : World) (h : Wr w p bs 0) (h1 : 1 ≤ m) (h8 : m < 8) (hf : ¬ v < 256 ^ m) :
    Calls Tryz.prog 54 #[.pointer (some ⟨p, 0, none⟩), .int .u64 v, .int .i64 m] w (Wrote w p ([], 1)) := by
  have hq : ((v : Int) / 2 ^ (8 * m) != 0) = true := by simpa using wshift_more hf
  have hq2 : ((v : Int) / 2 ^ (8 * m) == 0) = false := by simpa using wshift_more hf
  clear hf
  go_enter Tryz.func54, Tryz.ntmps54
  go_wp2_with (first
    | (go_at_call 84; refine (wready_ok p bs _ h).mono ?_; rintro e w' ⟨rfl, rfl⟩)
    | (go_at_call 85; refine (isWidth_yes _ _ (by omega)).mono ?_; rintro e w' ⟨rfl, rfl⟩)
    | (go_at_call 86; refine (wfail_any p bs 0 1 _ h).mono ?_; rintro e w' ⟨rfl, h'⟩))
  go_ret
  exact ⟨rfl, h'⟩
theorem wnum_fits (p : Nat) (bs : List UInt8) (v m : Nat) (w : World) (h : Wr w p bs 0) (h1 : 1 ≤ m) (h8 : m ≤ 8) (hv : (v : Int) < 18446744073709551616) (hl : bs.length ≤ 70368744177600) (hf : v < 256 ^ m) :
    Calls Tryz.prog 54 #[.pointer (some ⟨p, 0, none⟩), .int .u64 v, .int .i64 m] w (Wrote w p (bs ++ leb m v, 0)) := by
  have hq := wshift_zero hf
  clear hf
  go_enter Tryz.func54, Tryz.ntmps54
  go_wp2_with (first
    | (go_at_call 84; refine (wready_ok p bs _ h).mono ?_; rintro e w' ⟨rfl, rfl⟩)
    | (go_at_call 85; refine (isWidth_yes _ _ (by omega)).mono ?_; rintro e w' ⟨rfl, rfl⟩)
    | (go_at_call 88; refine (lay_any v m _ (by omega) hv).mono ?_; rintro e w1 ⟨rfl, hb⟩; have h' := h.below hb)
    | (go_at_call 87; refine (wput_any p bs (str (leb m v)) _ h' (by rw [str_size, leb_length]; omega)).mono ?_; rintro e w2 ⟨rfl, hw⟩))
  go_ret
  rw [str_list] at hw
  exact ⟨rfl, hw.1, (Only.of_below p hb).trans hw.2⟩
theorem wnum_any (p : Nat) (bs : List UInt8) (e : Int) (v : Nat) (n : Int) (w : World) (h : Wr w p bs e) (hv : (v : Int) < 18446744073709551616) (hl : bs.length ≤ 70368744177600) :
    Calls Tryz.prog 54 #[.pointer (some ⟨p, 0, none⟩), .int .u64 v, .int .i64 n] w (Wrote w p (wnum v n bs e)) := by
  by_cases he : e = 0
  · subst he
    by_cases hn : 1 ≤ n ∧ n ≤ 8
    · obtain ⟨m, rfl⟩ := Int.eq_ofNat_of_zero_le (show 0 ≤ n by omega)
      by_cases hf : v < 256 ^ m
      · rw [show wnum v m bs 0 = (bs ++ leb m v, 0) by simp [wnum, hn, hf]]
        exact wnum_fits p bs v m w h (by omega) (by omega) hv hl hf
      · rw [show wnum v m bs 0 = ([], 1) by simp [wnum, hf]]
        refine wnum_more p bs v m w h (by omega) ?_ hf
        by_cases h8 : m < 8
        · exact h8
        · obtain rfl : m = 8 := by omega
          exact absurd (show v < 256 ^ 8 by omega) hf
    · rw [show wnum v n bs 0 = ([], 1) by simp [wnum, hn]]
      exact wnum_width p bs v n w h hn
  · rw [show wnum v n bs e = (bs, e) by simp [wnum, he]]
    exact wnum_bad p bs e v n w h he

theorem wrap_u64_nat (v : Int) : IntKind.u64.wrap v = ((v % 18446744073709551616).toNat : Int) := by
  rw [IntKind.wrap_u64]; omega
/-- An int as a number without a sign. -/
def unsig (v : Int) : Nat := (v % 18446744073709551616).toNat
theorem unsig_lt (v : Int) : (unsig v : Int) < 18446744073709551616 := by unfold unsig; omega
theorem wrepeat_zero : ∀ n, Lib.repeatL [(0 : UInt8)] n = List.replicate n 0
  | 0 => rfl
  | n + 1 => by rw [Lib.repeatL, wrepeat_zero n, List.replicate_succ]; rfl
theorem repeat_any (n : Int) (w : World) (h0 : 0 ≤ n) (h1 : n ≤ 60000) : Calls Tryz.prog 60 #[.string { data := #[0] }, .int .i64 n] w fun e w' => e = .returned (.string (str (List.replicate n.toNat 0))) ∧ Below w.heap.size w w' := by
  obtain ⟨k, rfl⟩ := Int.eq_ofNat_of_zero_le h0
  refine (Tryz.strings_Repeat { data := #[0] } k w (by omega) (by show 1 * k ≤ _; omega)).mono fun e w' ⟨he, hw⟩ => ⟨?_, hw⟩
  rw [he, show ({ data := #[0] } : ByteArray).data.toList = [0] from rfl, wrepeat_zero]
  rfl
end Go.Proofs.YtmlhncheodpbpaaGreat
namespace Go.Proofs.YtmlhncheodpbpaaGreat
open Go Go.RowKit
set_option maxRecDepth 100000
theorem wbytes_nil (w : World) : Calls Tryz.prog 55 #[.pointer none] w fun e w' => e = .returned (.tuple #[.string (str []), .int .i64 1]) ∧ w = w' := by
  go_enter Tryz.func55, Tryz.ntmps55
  go_wp2
  go_ret2
  exact ⟨rfl, rfl⟩
theorem wbytes_bad (p : Nat) (bs : List UInt8) (e : Int) (w : World) (h : Wr w p bs e) (he : e ≠ 0) :
    Calls Tryz.prog 55 #[.pointer (some ⟨p, 0, none⟩)] w fun r w' => r = .returned (.tuple #[.string (str []), .int .i64 e]) ∧ Below w.heap.size w w' := by
  obtain ⟨v, ts, hs, _⟩ := h
  have c2 := hs.cell 2
  have hb : (e != 0) = true := by simpa using he
  clear he hs
  go_enter Tryz.func55, Tryz.ntmps55
  go_wp2
  go_region
  all_goals
    go_wp2
    go_ret2
    exact ⟨rfl, (Below.refl _ _).drew⟩

/-- How many bytes a chain has. -/
def cl (ts : List (List UInt8)) : Nat := ts.reverse.flatten.length
theorem cl_cons (t : List UInt8) (ts : List (List UInt8)) : cl (t :: ts) = cl ts + t.length := by simp [cl]

theorem wbytes_ok (p : Nat) (bs : List UInt8) (w : World) (h : Wr w p bs 0) (hl : bs.length ≤ 35184372088832) :
    Calls Tryz.prog 55 #[.pointer (some ⟨p, 0, none⟩)] w fun r w' => r = .returned (.tuple #[.string (str bs), .int .i64 0]) ∧ Below w.heap.size w w' := by
  obtain ⟨v, ts, hs, hc, hf, _⟩ := h
  have c0 := hs.cell 0
  have c1 := hs.cell 1
  have c2 := hs.cell 2
  obtain ⟨i0, hi, hz0, hz1, hz2⟩ := info_parts Tryz.info5
  have hmk := run_make (P := Tryz.prog) w 50 5 i0 _ Tryz.underlying50 hi hz0 .i64 .i64 bs.length bs.length (by omega) (by omega) (by rw [hz2]; omega) (by omega)
  have hp := hs.lt
  go_enter Tryz.func55, Tryz.ntmps55
  go_wp2
  clear hmk
  go_loopg [5, 6] ts.length (fun k e c wr => ∃ q ts', ts'.length = k ∧ e = .int .i64 (cl ts') ∧ c = .pointer q ∧ Chain w q ts' ∧ ts'.reverse.flatten ++ bs.drop (cl ts') = bs ∧ Sits wr w.heap.size 5 (byteCells (List.replicate (cl ts') 0 ++ bs.drop (cl ts'))) ∧ Below w.heap.size w wr)
  case atStart =>
    refine ⟨v, ts, rfl, ?_, rfl, hc, ?_, ?_, (Below.refl _ _).alloc (Nat.le_refl _) _⟩
    · rw [cl, hf]
    · rw [cl, hf]; simp
    · rw [cl, hf, byteCells_made]
      simpa using Sits.fresh w 5 (byteCells (List.replicate bs.length 0))
  case round =>
    obtain ⟨q, ts', hk, rfl, rfl, hch, hall, hrow, hb⟩ := hrel
    match ts', hch, hk with
    | [], hch, hk =>
      have hq : q = none := hch
      subst hq
      have hall' : bs = bs.drop (cl []) := by simpa using hall.symm
      have hcv := run_text_of_row (P := Tryz.prog) wr 50 9 5 5 w.heap.size bs.length bs.length bs Tryz.underlying50 Tryz.underlying5 Tryz.underlying9 (by
        have := hrow
        rw [← hall'] at this
        simpa [cl] using this) rfl
      have HA := Lib.hid hall
      have HB := Lib.hid hall'
      clear hall hall' hf
      go_wp2
      go_ret2
      exact ⟨rfl, hb⟩
    | t :: ts', hch, hk =>
      obtain ⟨hne, b, q2, rfl, hsb, hch⟩ := hch
      have hsb' := hsb.below' hb
      have p0 := hsb'.cell 0
      have p1 := hsb'.cell 1
      have hlen : cl (t :: ts') ≤ bs.length := by
        have := congrArg List.length hall
        rw [List.length_append] at this
        have e : (t :: ts').reverse.flatten.length = cl (t :: ts') := rfl
        omega
      have hcc := cl_cons t ts'
      have htl : 1 ≤ t.length := by cases t with | nil => exact absurd rfl hne | cons x t => simp
      have hts : (str t).size = t.length := str_size t
      have hcp := run_copy_text (P := Tryz.prog) wr.drew 50 9 3 5 w.heap.size (cl ts') (bs.length - cl ts') (bs.length - cl ts') (List.replicate (cl (t :: ts')) 0 ++ bs.drop (cl (t :: ts'))) 5 (str t) Tryz.underlying50 (by rw [hi]; simp [hz1]) hrow.drew (by omega) (by simp; omega)
      have hsum : cl (t :: ts') = cl ts' + (str t).size := by omega
      rw [hsum] at hlen hcp
      rw [hsum]
      have hR : (List.replicate (cl ts' + (str t).size) 0 ++ bs.drop (cl ts' + (str t).size)).take (cl ts') ++ (str t).data.toList ++ (List.replicate (cl ts' + (str t).size) 0 ++ bs.drop (cl ts' + (str t).size)).drop (cl ts' + (str t).size) = List.replicate (cl ts') 0 ++ (t ++ bs.drop (cl ts' + (str t).size)) := by
        rw [List.take_append_of_le_length (by simp), List.take_replicate, Nat.min_eq_left (by omega), List.drop_append_of_le_length (by simp), str_list]
        simp
      have hall2 : bs.drop (cl ts') = t ++ bs.drop (cl ts' + (str t).size) := by
        have e : ts'.reverse.flatten ++ (t ++ bs.drop (cl ts' + (str t).size)) = bs := by
          rw [← List.append_assoc, ← hsum]
          simpa using hall
        have e2 := congrArg (List.drop (cl ts')) e
        rw [List.drop_append_of_le_length (by rw [cl]; omega), cl, List.drop_length, List.nil_append] at e2
        exact e2.symm
      have hall3 : ts'.reverse.flatten ++ bs.drop (cl ts') = bs := by
        rw [hall2, ← List.append_assoc, ← hsum]
        simpa using hall
      rw [hR, ← hall2] at hcp
      have hnx : ∀ cs, (wr.drew.setRow w.heap.size cs).cell? ⟨b, 0, none⟩ = some (.pointer q2) := fun cs => by
        have : (wr.drew.setRow w.heap.size cs).heap[b]? = wr.heap[b]? := by
          have hlb := hsb.lt
          simp only [World.setRow, Array.getElem?_modify]
          rw [if_neg (by omega)]
          rfl
        exact (World.cell?_of_block (w := wr) (a := ⟨b, 0, none⟩) this).trans p0
      have hrow2 := hrow.drew.row (cs' := byteCells (List.replicate (cl ts') 0 ++ bs.drop (cl ts')))
      have HA := Lib.hid hall3
      have HC := Lib.hid hsum
      have HT := Lib.hid hts
      have hm1 : 1 ≤ (str t).size := by omega
      have hlt : cl ts' < bs.length := by omega
      clear hall hcc hf hts hsum htl hR hall2 hall3 hrow hc
      go_wp2
      go_region
      all_goals
        go_wp2
        go_roundg ts'.length
        case measure => rw [← hk]; simp
        case rel => exact ⟨q2, ts', rfl, rfl, rfl, hch, HA.out, hrow2, Below.row hb.drew (Nat.le_refl _) _⟩
end Go.Proofs.YtmlhncheodpbpaaGreat
