/- Rows of bytes in memory: what copy from a text does to a row that is known whole, and what the conversion of such a row to a text gives. Package wire: a Reader: laid, take, fail, ready and each of its calls: what it answers and leaves. Package wire: NewReader and Num, Int, Text, Flag, Skip, Count, Err, End of a Reader: what each answers and leaves. Plain facts on what a Writer puts and a Reader gets: what was put is read as it was. -/
import Derived.Test.YtieodancccefiaaGA
import Derived.Laws.IdiomStrings
import Derived.Test.YtieodancccefiaaGB
import Derived.Laws.BitsAllLaws
import Derived.Test.YtieodancccefiaaShelf
namespace Go.Proofs.Ytieodancccefiaa
section
open Go Go.RowKit

theorem Sits.row {w : World} {g : Nat} {t : TypeId} {cs cs' : Array Value} (h : Sits w g t cs) : Sits (w.setRow g cs') g t cs' := setRow_heap w g cs cs' t (0, 0) h
theorem Only.row {a w : World} {p : Nat} (h : Only p a w) (cs : Array Value) : Only p a (w.setRow p cs) :=
  h.trans ⟨rfl, rfl, rfl, by simp [World.setRow], fun k _ hk => by
    simp only [World.setRow, Array.getElem?_modify]
    rw [if_neg (fun e => hk e.symm)]⟩
theorem Below.row {B p : Nat} {a w : World} (h : Below B a w) (hp : B ≤ p) (cs : Array Value) : Below B a (w.setRow p cs) :=
  h.trans ⟨rfl, rfl, rfl, by simp [World.setRow], fun k hk => by
    simp only [World.setRow, Array.getElem?_modify]
    rw [if_neg (by omega)]⟩

/-- copy of a whole text into a row of bytes, from place o on. -/
theorem run_copy_text {P : Program} (w : World) (dT sT ty elem : TypeId) (g o dLen dCap : Nat) (l : List UInt8) (t : TypeId) (s : ByteArray)
    (hu : P.underlying dT = some (.slice elem)) (hs : (P.info? elem).map (·.size) = some 1)
    (hg : Sits w g t (byteCells l)) (hn : s.size ≤ dLen) (hfit : o + s.size ≤ l.length) :
    (Builtin.copy_ #[dT, sT] ty #[.slice (some ⟨g, o, none⟩) dLen dCap, .string s]).run P w =
      .ok (goInt s.size) (w.setRow g (byteCells (l.take o ++ s.data.toList ++ l.drop (o + s.size)))) := by
  have hst := run_storeCells_at P g o t (s.data.toList.map fun b => Value.int .u8 (b.toNat : Int)) 0 (byteCells l) w hg (by simp [byteCells_size]; exact hfit) (by
    intro v hv
    simp at hv
    obtain ⟨b, _, rfl⟩ := hv
    rfl)
  have hmin : Nat.min s.size dLen = s.size := Nat.min_eq_left hn
  have hrow : ((byteCells l).toList.take (o + 0) ++ (s.data.toList.map fun b => Value.int .u8 (b.toNat : Int)) ++ (byteCells l).toList.drop (o + 0 + (s.data.toList.map fun b => Value.int .u8 (b.toNat : Int)).length)).toArray = byteCells (l.take o ++ s.data.toList ++ l.drop (o + s.size)) := by
    have e : s.data.size = s.size := rfl
    simp [byteCells, List.map_take, List.map_drop, e]
  cases hq : P.info? elem with
  | none => simp [hq] at hs
  | some i =>
    rw [hrow] at hst
    simp only [Builtin.copy_]
    simp [run_underlying hu, Builtin.lenOf, Builtin.firstCells, sizeOf, typeInfo, hq, hmin, Sem.run_pure]
    rw [List.take_of_length_le (by simp), hst]
    simp

/-- The text of a row of bytes that is known whole. -/
theorem run_text_of_row {P : Program} (w : World) (src dst e t : TypeId) (g n cap : Nat) (l : List UInt8) (hs : P.underlying src = some (.slice e)) (he : P.underlying e = some (.int .u8)) (hd : P.underlying dst = some .string)
    (hg : Sits w g t (byteCells l)) (hn : n = l.length) :
    (convert src dst (.slice (some ⟨g, 0, none⟩) n cap)).run P w = .ok (.string (str l)) w := by
  subst hn
  exact run_convert_bytes_back (P := P) w src dst e ⟨g, 0, none⟩ cap l hs he hd (fun j hj => by
    rw [show (⟨g, 0, none⟩ : Addr).add j = ⟨g, j, none⟩ by unfold Addr.add; split <;> simp_all]
    rw [hg.cell j, byteCells_get _ _ hj])

/-- A text as a slice of bytes of its own: its cells may be written, and nothing that was there has turned. -/
theorem text_bytes {P : Program} (w : World) (src dst e : TypeId) (l : List UInt8) (hs : P.underlying src = some .string) (hd : P.underlying dst = some (.slice e)) (he : P.underlying e = some (.int .u8)) :
    ∃ cap W, (convert src dst (.string (str l))).run P w = .ok (.slice (some ⟨w.heap.size, 0, none⟩) l.length cap) W ∧ l.length ≤ cap ∧
      (∀ j (h : j < l.length), W.cell? ⟨w.heap.size, j, none⟩ = some (.int .u8 (l[j].toNat : Int))) ∧ (∀ j, j < l.length → W.frozen? ⟨w.heap.size, j, none⟩ = false) ∧ Below w.heap.size w W := by
  refine ⟨_, _, by rw [← str_size l]; exact run_bytes_of_string w src dst e (str l) hs hd he, ?_, ?_, ?_, ?_⟩
  · rw [← str_size l]; exact grownCap_ge w _ _ _
  · intro j h
    have e1 := World.cell?_alloc_mark w.drew (bytesRow (str l) (grownCap w (str l).size 0 e)) e ((bytesRow (str l) (grownCap w (str l).size 0 e)).size, (bytesRow (str l) (grownCap w (str l).size 0 e)).size + 1) j
    have e2 := bytesRow_at (str l) (grownCap w (str l).size 0 e) j (by show j < (str l).size; rw [str_size]; exact h)
    exact e1.trans e2
  · intro j h
    have e1 := World.frozen?_alloc_mark w.drew (bytesRow (str l) (grownCap w (str l).size 0 e)) e (bytesRow (str l) (grownCap w (str l).size 0 e)).size ((bytesRow (str l) (grownCap w (str l).size 0 e)).size + 1) j
    refine e1.trans ?_
    have hz : l.length ≤ (bytesRow (str l) (grownCap w (str l).size 0 e)).size := by
      have : (str l).data.size = l.length := str_size l
      simp [bytesRow, this]
    rw [Bool.and_eq_false_iff]
    left
    simp
    omega
  · exact ((Below.refl w.heap.size w).drew).alloc (Nat.le_refl _) _
/-- A row of bytes, one of which is written, as a text. -/
theorem bytes_set_text {P : Program} (w : World) (src dst e : TypeId) (g cap : Nat) (l : List UInt8) (i : Nat) (b : UInt8) (hs : P.underlying src = some (.slice e)) (he : P.underlying e = some (.int .u8)) (hd : P.underlying dst = some .string)
    (hc : ∀ j (h : j < l.length), w.cell? ⟨g, j, none⟩ = some (.int .u8 (l[j].toNat : Int))) (hi : i < l.length) (n : Nat) (hn : n = l.length) :
    (convert src dst (.slice (some ⟨g, 0, none⟩) n cap)).run P (w.setCell ⟨g, i, none⟩ (.int .u8 (b.toNat : Int))) = .ok (.string (str (l.set i b))) (w.setCell ⟨g, i, none⟩ (.int .u8 (b.toNat : Int))) := by
  have h := run_convert_bytes_back (P := P) (w.setCell ⟨g, i, none⟩ (.int .u8 (b.toNat : Int))) src dst e ⟨g, 0, none⟩ cap (l.set i b) hs he hd (fun j hj => by
    have hj' : j < l.length := by simpa using hj
    rw [show (⟨g, 0, none⟩ : Addr).add j = ⟨g, j, none⟩ by unfold Addr.add; split <;> simp_all]
    by_cases e : i = j
    · subst e
      rw [World.cell?_setCell_same _ _ _ (hc i hi)]
      simp
    · rw [World.cell?_setCell_other _ _ _ _ (fun h => e (by injection h)), hc j hj']
      rw [List.getElem_set_ne e])
  rw [List.length_set] at h
  subst hn
  exact h
end
section
open Go Go.RowKit
set_option maxRecDepth 100000
/-- At p lies a Reader with the bytes s left and the error e. -/
def Rd (w : World) (p : Nat) (s : List UInt8) (e : Int) : Prop := Sits w p 112 #[.string (str s), .int .i64 e]

theorem rready_nil (w : World) : Calls Try.prog 72 #[.pointer none] w fun e w' => e = .returned (.bool false) ∧ w = w' := by
  go_enter Try.func72, Try.ntmps72
  go_wp2
  go_ret
  exact ⟨rfl, rfl⟩
theorem rready_any (p : Nat) (s : List UInt8) (e : Int) (w : World) (h : Rd w p s e) : Calls Try.prog 72 #[.pointer (some ⟨p, 0, none⟩)] w fun r w' => r = .returned (.bool (e == 0)) ∧ w = w' := by
  have c1 := h.cell 1
  go_enter Try.func72, Try.ntmps72
  go_wp2
  go_ret
  exact ⟨rfl, rfl⟩
theorem rready_ok (p : Nat) (s : List UInt8) (w : World) (h : Rd w p s 0) : Calls Try.prog 72 #[.pointer (some ⟨p, 0, none⟩)] w fun r w' => r = .returned (.bool true) ∧ w = w' :=
  rready_any p s 0 w h
theorem rready_bad (p : Nat) (s : List UInt8) (e : Int) (w : World) (h : Rd w p s e) (he : e ≠ 0) : Calls Try.prog 72 #[.pointer (some ⟨p, 0, none⟩)] w fun r w' => r = .returned (.bool false) ∧ w = w' :=
  (rready_any p s e w h).mono fun _ _ ⟨hr, hw⟩ => ⟨by rw [hr, beq_eq_false_iff_ne.2 he], hw⟩
theorem rfail_any (p : Nat) (s : List UInt8) (x e : Int) (w : World) (h : Rd w p s x) : Calls Try.prog 73 #[.pointer (some ⟨p, 0, none⟩), .int .i64 e] w fun r w' => r = .returned (.tuple #[]) ∧ Rd w' p [] e ∧ Only p w w' := by
  have c0 := h.cell 0
  have c1 := h.cell 1
  have f0 := h.warm 0
  have f1 := h.warm 1
  go_enter Try.func73, Try.ntmps73
  go_wp2
  go_end0
  exact ⟨rfl, (h.put 0 _).put 1 _, ((Only.refl p w).store 0 _).store 1 _⟩
theorem rtake_any (p n : Nat) (s : List UInt8) (e : Int) (w : World) (h : Rd w p s e) (hn : n ≤ s.length) (hl : s.length ≤ 70368744177664) : Calls Try.prog 75 #[.pointer (some ⟨p, 0, none⟩), .int .i64 n] w fun r w' => r = .returned (.string (str (s.take n))) ∧ Rd w' p (s.drop n) e ∧ Only p w w' := by
  have c0 := h.cell 0
  have f0 := h.warm 0
  have hz := str_size s
  have hle : n ≤ (str s).size := by omega
  have hle2 : (str s).size ≤ 70368744177664 := by omega
  clear hz
  go_enter Try.func75, Try.ntmps75
  go_wp2
  go_ret
  rw [str_extract, str_extract, str_size, List.take_length, List.drop_zero]
  exact ⟨rfl, h.put 0 _, (Only.refl p w).store 0 _⟩
theorem or_step (a c k : Nat) (ha : a < 256 ^ k) (hc : c < 256) (hk : k ≤ 7) :
    bits BinOp.or IntKind.u64 (a : Int) (IntKind.u64.wrap (IntKind.u64.wrap (c : Int) * 2 ^ (8 * k))) = ((a + c * 256 ^ k : Nat) : Int) := by
  have e8 : (256 : Nat) = 2 ^ 8 := rfl
  have hp : (256 : Nat) ^ k ≤ 256 ^ 7 := Nat.pow_le_pow_right (by omega) hk
  have h7 : (256 : Nat) ^ 7 = 72057594037927936 := by decide
  have hm : c * 256 ^ k ≤ 255 * 72057594037927936 := Nat.mul_le_mul (by omega) (by omega)
  have hq : (2 : Int) ^ (8 * k) = ((256 ^ k : Nat) : Int) := by rw [e8, ← Nat.pow_mul]; simp
  have h1 : IntKind.u64.wrap (c : Int) = (c : Int) := by rw [IntKind.wrap_u64]; omega
  have h2 : IntKind.u64.wrap ((c : Int) * ((256 ^ k : Nat) : Int)) = ((c * 256 ^ k : Nat) : Int) := by
    rw [← Int.natCast_mul, IntKind.wrap_u64]; omega
  rw [h1, hq, h2, u64_or_nat _ _ (by omega) (by omega)]
  have := Nat.two_pow_add_eq_or_of_lt (i := 8 * k) (by rw [Nat.pow_mul]; exact ha) c
  rw [Nat.pow_mul, ← e8] at this
  rw [Nat.or_comm, Nat.mul_comm c, ← this, Nat.add_comm]
theorem laid_any (s : List UInt8) (w : World) (hl : s.length ≤ 8) : Calls Try.prog 74 #[.string (str s)] w fun r w' => r = .returned (.int .u64 (unleb s)) ∧ w = w' := by
  have hz := str_size s
  have hle : (str s).size ≤ 8 := by omega
  have HZ := Lib.hid hz
  clear hz
  go_enter Try.func74, Try.ntmps74
  go_wp2
  go_loop [3, 7] (fun v i => ∃ k : Nat, k ≤ (str s).size ∧ i = .int .i64 k ∧ v = .int .u64 (unleb (s.take k))) (fun _ i => (str s).size - (intOf i).toNat)
  case atStart => exact ⟨0, by omega, rfl, rfl⟩
  case round =>
    obtain ⟨k, hk, rfl, rfl⟩ := hrel
    by_cases hlt : k < (str s).size
    · go_wp2
      go_round
      case rel =>
        have hl2 : k < s.length := by rw [← HZ.out]; exact hlt
        refine ⟨k + 1, by omega, by go_num, ?_⟩
        have hu := unleb_lt (s.take k)
        rw [List.length_take, Nat.min_eq_left (by omega)] at hu
        rw [str_get, or_step _ _ _ hu s[k].toNat_lt (by omega), unleb_take s k hl2]
      case measure => simp [intOf]; omega
    · obtain rfl : k = (str s).size := by omega
      go_wp2
      go_ret
      rw [HZ.out, List.take_length]
      exact ⟨rfl, rfl⟩
end
section
open Go Go.RowKit
set_option maxRecDepth 100000

/-- A call of a Reader that answers v and leaves these bytes and this error. -/
def Got (w : World) (p : Nat) (v : Value) (s : List UInt8 × Int) (r : Ending) (w' : World) : Prop := r = .returned v ∧ Rd w' p s.1 s.2 ∧ Only p w w'

def rnum (n : Int) (s : List UInt8) (e : Int) : Nat × List UInt8 × Int :=
  if e = 0 then (if 1 ≤ n ∧ n ≤ 8 then (if n ≤ s.length then (unleb (s.take n.toNat), s.drop n.toNat, 0) else (0, [], 5)) else (0, [], 1)) else (0, s, e)
def rcount (most : Int) (s : List UInt8) (e : Int) : Nat × List UInt8 × Int :=
  if (rnum 2 s e).2.2 = 0 ∧ most < (rnum 2 s e).1 then (0, [], 2) else rnum 2 s e
def rtext (room : Int) (s : List UInt8) (e : Int) : List UInt8 × List UInt8 × Int :=
  if e = 0 then (if 0 ≤ room ∧ room ≤ 60000 then
      (if (rcount room s e).2.1.length < (rcount room s e).1 then ([], [], 5) else ((rcount room s e).2.1.take (rcount room s e).1, (rcount room s e).2.1.drop (rcount room s e).1, (rcount room s e).2.2))
    else ([], [], 1)) else ([], s, e)
def rflag (s : List UInt8) (e : Int) : Bool × List UInt8 × Int :=
  if 1 < (rnum 1 s e).1 then (false, [], 4) else (decide ((rnum 1 s e).1 = 1), (rnum 1 s e).2)
def zeros (s : List UInt8) : Bool := s.all (· == 0)
def rskip (n : Int) (s : List UInt8) (e : Int) : List UInt8 × Int :=
  if e = 0 then (if 0 ≤ n then (if n ≤ s.length then (if zeros (s.take n.toNat) then (s.drop n.toNat, 0) else ([], 4)) else ([], 5)) else ([], 1)) else (s, e)
def rend (s : List UInt8) (e : Int) : Int := if e = 0 then (if zeros s then 0 else 4) else e

theorem Rd.below {w w' : World} {p : Nat} {s : List UInt8} {e : Int} (h : Rd w p s e) (hb : Below w.heap.size w w') : Rd w' p s e := Sits.below' h hb

theorem newreader_any (s : ByteArray) (w : World) : Calls Try.prog 36 #[.string s] w fun r w' => r = .returned (.pointer (some ⟨w.heap.size, 0, none⟩)) ∧ Rd w' w.heap.size s.data.toList 0 ∧ Below w.heap.size w w' := by
  go_enter Try.func36, Try.ntmps36
  go_wp2
  go_ret
  refine ⟨rfl, ?_, (Below.refl _ _).alloc (Nat.le_refl _) _⟩
  rw [Rd, str_of]
  exact Sits.fresh w _ _

theorem rnum_nil (n : Int) (w : World) : Calls Try.prog 37 #[.pointer none, .int .i64 n] w fun r w' => r = .returned (.int .u64 0) ∧ w = w' := by
  go_enter Try.func37, Try.ntmps37
  go_wp2_with (go_at_call 72; refine (rready_nil _).mono ?_; rintro e w' ⟨rfl, rfl⟩)
  go_ret
  exact ⟨rfl, rfl⟩

theorem rnum_any (p : Nat) (s : List UInt8) (e n : Int) (w : World) (h : Rd w p s e) (hl : s.length ≤ 70368744177664) :
    Calls Try.prog 37 #[.pointer (some ⟨p, 0, none⟩), .int .i64 n] w (Got w p (.int .u64 (rnum n s e).1) (rnum n s e).2) := by
  have c0 := h.cell 0
  have hz := str_size s
  by_cases he : e = 0
  · subst he
    by_cases hn : 1 ≤ n ∧ n ≤ 8
    · obtain ⟨m, rfl⟩ := Int.eq_ofNat_of_zero_le (show 0 ≤ n by omega)
      by_cases hf : (m : Int) ≤ s.length
      · rw [show rnum m s 0 = (unleb (s.take m), s.drop m, 0) by simp [rnum, hn, hf]]
        have hle : m ≤ (str s).size := by omega
        have hs8 : (str s).size ≤ 70368744177664 := by omega
        have hm8 : m ≤ 8 := by omega
        have hm1 : 1 ≤ m := by omega
        have HF := Lib.hid hf
        clear hf hn hz
        go_enter Try.func37, Try.ntmps37
        go_wp2_with (first
          | (go_at_call 72; refine (rready_ok p s _ h).mono ?_; rintro e w' ⟨rfl, rfl⟩)
          | (go_at_call 61; refine (isWidth_yes _ _ (by omega)).mono ?_; rintro e w' ⟨rfl, rfl⟩)
          | (go_at_call 75; refine (rtake_any p m s 0 _ h (by have := HF.out; omega) hl).mono ?_; rintro e w1 ⟨rfl, h1, ho⟩)
          | (go_at_call 74; refine (laid_any _ _ (by rw [List.length_take]; omega)).mono ?_; rintro e w2 ⟨rfl, rfl⟩))
        go_ret
        exact ⟨rfl, h1, ho⟩
      · rw [show rnum m s 0 = (0, [], 5) by simp [rnum, hn, hf]]
        have hgt : (str s).size < m := by omega
        have hm8 : m ≤ 8 := by omega
        have hm1 : 1 ≤ m := by omega
        clear hf hn hz
        go_enter Try.func37, Try.ntmps37
        go_wp2_with (first
          | (go_at_call 72; refine (rready_ok p s _ h).mono ?_; rintro e w' ⟨rfl, rfl⟩)
          | (go_at_call 61; refine (isWidth_yes _ _ (by omega)).mono ?_; rintro e w' ⟨rfl, rfl⟩)
          | (go_at_call 73; refine (rfail_any p s 0 5 _ h).mono ?_; rintro e w1 ⟨rfl, h1, ho⟩))
        go_ret
        exact ⟨rfl, h1, ho⟩
    · rw [show rnum n s 0 = (0, [], 1) by simp [rnum, hn]]
      have HN := Lib.hid hn
      clear hn hz
      go_enter Try.func37, Try.ntmps37
      go_wp2_with (first
        | (go_at_call 72; refine (rready_ok p s _ h).mono ?_; rintro e w' ⟨rfl, rfl⟩)
        | (go_at_call 61; refine (isWidth_no _ _ HN.out).mono ?_; rintro e w' ⟨rfl, rfl⟩)
        | (go_at_call 73; refine (rfail_any p s 0 1 _ h).mono ?_; rintro e w1 ⟨rfl, h1, ho⟩))
      go_ret
      exact ⟨rfl, h1, ho⟩
  · rw [show rnum n s e = (0, s, e) by simp [rnum, he]]
    have HE := Lib.hid he
    clear he hz
    go_enter Try.func37, Try.ntmps37
    go_wp2_with (go_at_call 72; refine (rready_bad p s e _ h HE.out).mono ?_; rintro e w' ⟨rfl, rfl⟩)
    go_ret
    exact ⟨rfl, h, Only.refl p w⟩

theorem rnum_lt (n : Int) (s : List UInt8) (e : Int) : (rnum n s e).1 < 18446744073709551616 := by
  unfold rnum
  split
  · split
    · split
      · have h := unleb_lt (s.take n.toNat)
        have hp : (256 : Nat) ^ (s.take n.toNat).length ≤ 256 ^ 8 := Nat.pow_le_pow_right (by omega) (by rw [List.length_take]; omega)
        have h8 : (256 : Nat) ^ 8 = 18446744073709551616 := by decide
        show unleb (s.take n.toNat) < _
        omega
      · decide
    · decide
  · show 0 < _
    omega
theorem rnum_two (s : List UInt8) (e : Int) : (rnum 2 s e).1 < 65536 := by
  unfold rnum
  split
  · rw [if_pos (by omega)]
    split
    · have h := unleb_lt (s.take 2)
      have hp : (256 : Nat) ^ (s.take 2).length ≤ 256 ^ 2 := Nat.pow_le_pow_right (by omega) (by rw [List.length_take]; omega)
      have h8 : (256 : Nat) ^ 2 = 65536 := by decide
      show unleb (s.take 2) < _
      omega
    · decide
  · show 0 < _
    omega
theorem rnum_len (n : Int) (s : List UInt8) (e : Int) : (rnum n s e).2.1.length ≤ s.length := by
  unfold rnum
  split
  · split
    · split <;> simp
    · simp
  · simp
theorem rint_nil (w : World) : Calls Try.prog 38 #[.pointer none] w fun r w' => r = .returned (.int .i64 0) ∧ w = w' := by
  go_enter Try.func38, Try.ntmps38
  go_wp2_with (go_at_call 37; refine (rnum_nil _ _).mono ?_; rintro e w' ⟨rfl, rfl⟩)
  go_ret
  exact ⟨rfl, rfl⟩
theorem rint_any (p : Nat) (s : List UInt8) (e : Int) (w : World) (h : Rd w p s e) (hl : s.length ≤ 70368744177664) :
    Calls Try.prog 38 #[.pointer (some ⟨p, 0, none⟩)] w (Got w p (.int .i64 (wrap64 (rnum 8 s e).1)) (rnum 8 s e).2) := by
  obtain ⟨x, hx⟩ : ∃ x, x = rnum 8 s e := ⟨_, rfl⟩
  have hn := rnum_any p s e 8 w h hl
  rw [← hx] at hn ⊢
  have HN := Lib.hid hn
  clear hn hx
  go_enter Try.func38, Try.ntmps38
  go_wp2_with (go_at_call 37; refine HN.out.mono ?_; rintro e w' ⟨rfl, h', ho⟩)
  go_ret
  exact ⟨rfl, h', ho⟩
theorem rcount_nil (most : Int) (w : World) : Calls Try.prog 76 #[.pointer none, .int .i64 most] w fun r w' => r = .returned (.int .i64 0) ∧ w = w' := by
  go_enter Try.func76, Try.ntmps76
  go_wp2_with (first
    | (go_at_call 37; refine (rnum_nil _ _).mono ?_; rintro e w' ⟨rfl, rfl⟩)
    | (go_at_call 72; refine (rready_nil _).mono ?_; rintro e w' ⟨rfl, rfl⟩))
  go_ret
  exact ⟨rfl, rfl⟩
theorem rcount_any (p : Nat) (s : List UInt8) (e most : Int) (w : World) (h : Rd w p s e) (hl : s.length ≤ 70368744177664) :
    Calls Try.prog 76 #[.pointer (some ⟨p, 0, none⟩), .int .i64 most] w (Got w p (.int .i64 (rcount most s e).1) (rcount most s e).2) := by
  have hn := rnum_any p s e 2 w h hl
  have h2 := rnum_two s e
  unfold rcount
  generalize rnum 2 s e = x at *
  obtain ⟨n, s1, e1⟩ := x
  have HN := Lib.hid hn
  clear hn
  simp only at h2
  by_cases he : e1 = 0
  · subst he
    by_cases hm : most < (n : Int)
    · rw [if_pos ⟨rfl, hm⟩]
      go_enter Try.func76, Try.ntmps76
      go_wp2_with (first
        | (go_at_call 37; refine HN.out.mono ?_; rintro e w1 ⟨rfl, h1, ho⟩)
        | (go_at_call 72; refine (rready_ok p s1 _ h1).mono ?_; rintro e w2 ⟨rfl, rfl⟩)
        | (go_at_call 73; refine (rfail_any p s1 0 2 _ h1).mono ?_; rintro e w3 ⟨rfl, h2, ho2⟩))
      go_ret
      exact ⟨rfl, h2, ho.trans ho2⟩
    · rw [if_neg (fun h => hm h.2)]
      have hm : (n : Int) ≤ most := by omega
      go_enter Try.func76, Try.ntmps76
      go_wp2_with (first
        | (go_at_call 37; refine HN.out.mono ?_; rintro e w1 ⟨rfl, h1, ho⟩)
        | (go_at_call 72; refine (rready_ok p s1 _ h1).mono ?_; rintro e w2 ⟨rfl, rfl⟩))
      go_ret
      exact ⟨rfl, h1, ho⟩
  · rw [if_neg (fun h => he h.1)]
    have HE := Lib.hid he
    clear he
    go_enter Try.func76, Try.ntmps76
    go_wp2_with (first
      | (go_at_call 37; refine HN.out.mono ?_; rintro e w1 ⟨rfl, h1, ho⟩)
      | (go_at_call 72; refine (rready_bad p s1 e1 _ h1 HE.out).mono ?_; rintro e w2 ⟨rfl, rfl⟩))
    go_ret
    exact ⟨rfl, h1, ho⟩
theorem rcount_lt (most : Int) (s : List UInt8) (e : Int) : (rcount most s e).1 < 65536 := by
  have h := rnum_two s e
  unfold rcount
  split
  · decide
  · exact h
theorem rcount_len (most : Int) (s : List UInt8) (e : Int) : (rcount most s e).2.1.length ≤ s.length := by
  have h := rnum_len 2 s e
  unfold rcount
  split
  · simp
  · exact h
theorem rtext_nil (room : Int) (w : World) : Calls Try.prog 40 #[.pointer none, .int .i64 room] w fun r w' => r = .returned (.string (str [])) ∧ w = w' := by
  go_enter Try.func40, Try.ntmps40
  go_wp2_with (go_at_call 72; refine (rready_nil _).mono ?_; rintro e w' ⟨rfl, rfl⟩)
  go_ret
  exact ⟨rfl, rfl⟩
theorem clone_any (s : ByteArray) (w : World) (hl : s.size ≤ 281474976710656) : Calls Try.prog 77 #[.string s] w fun r w' => r = .returned (.string s) ∧ Below w.heap.size w w' := by
  go_enter Try.func77, Try.ntmps77
  go_wp2_with (go_at_call 88; refine (Try.stringslite_Clone s _ hl).mono ?_; rintro e w' ⟨rfl, hb⟩)
  go_ret
  exact ⟨rfl, hb⟩
theorem rtext_any (p : Nat) (s : List UInt8) (e room : Int) (w : World) (h : Rd w p s e) (hl : s.length ≤ 70368744177664) :
    Calls Try.prog 40 #[.pointer (some ⟨p, 0, none⟩), .int .i64 room] w (Got w p (.string (str (rtext room s e).1)) (rtext room s e).2) := by
  unfold rtext
  by_cases he : e = 0
  · subst he
    rw [if_pos rfl]
    by_cases hr : 0 ≤ room ∧ room ≤ 60000
    · rw [if_pos hr]
      have hn := rcount_any p s 0 room w h hl
      have h2 := rcount_lt room s 0
      have h3 := rcount_len room s 0
      generalize rcount room s 0 = x at *
      obtain ⟨n, s1, e1⟩ := x
      simp only at h2 h3 ⊢
      have hz := str_size s1
      have HN := Lib.hid hn
      have HR := Lib.hid hr
      clear hn hr
      by_cases hm : s1.length < n
      · rw [if_pos hm]
        have hgt : (str s1).size < n := by omega
        clear hz hm
        go_enter Try.func40, Try.ntmps40
        go_wp2_with (first
          | (go_at_call 72; refine (rready_ok p s _ h).mono ?_; rintro e w2 ⟨rfl, rfl⟩)
          | (go_at_call 65; refine (isRoom_yes _ _ HR.out).mono ?_; rintro e w' ⟨rfl, rfl⟩)
          | (go_at_call 76; refine HN.out.mono ?_; rintro e w1 ⟨rfl, h1, ho⟩; have c1 := h1.cell 0; simp only at h1)
          | (go_at_call 73; refine (rfail_any p s1 e1 5 _ h1).mono ?_; rintro e w3 ⟨rfl, h2, ho2⟩))
        go_ret
        exact ⟨rfl, h2, ho.trans ho2⟩
      · rw [if_neg hm]
        have hgt : n ≤ (str s1).size := by omega
        have hs8 : (str s1).size ≤ 70368744177664 := by omega
        have HM := Lib.hid hm
        clear hz hm
        go_enter Try.func40, Try.ntmps40
        go_wp2_with (first
          | (go_at_call 72; refine (rready_ok p s _ h).mono ?_; rintro e w2 ⟨rfl, rfl⟩)
          | (go_at_call 65; refine (isRoom_yes _ _ HR.out).mono ?_; rintro e w' ⟨rfl, rfl⟩)
          | (go_at_call 76; refine HN.out.mono ?_; rintro e w1 ⟨rfl, h1, ho⟩; have c1 := h1.cell 0; simp only at h1)
          | (go_at_call 75; refine (rtake_any p n s1 e1 _ h1 (by have := HM.out; omega) (by omega)).mono ?_; rintro e w3 ⟨rfl, h2, ho2⟩)
          | (go_at_call 77; refine (clone_any _ _ (by rw [str_size, List.length_take]; omega)).mono ?_; rintro e w4 ⟨rfl, hb⟩))
        go_ret
        exact ⟨rfl, h2.below hb, (ho.trans ho2).then hb⟩
    · rw [if_neg hr]
      have HR := Lib.hid hr
      clear hr
      go_enter Try.func40, Try.ntmps40
      go_wp2_with (first
        | (go_at_call 72; refine (rready_ok p s _ h).mono ?_; rintro e w2 ⟨rfl, rfl⟩)
        | (go_at_call 65; refine (isRoom_no _ _ HR.out).mono ?_; rintro e w' ⟨rfl, rfl⟩)
        | (go_at_call 73; refine (rfail_any p s 0 1 _ h).mono ?_; rintro e w3 ⟨rfl, h2, ho2⟩))
      go_ret
      exact ⟨rfl, h2, ho2⟩
  · rw [if_neg he]
    have HE := Lib.hid he
    clear he
    go_enter Try.func40, Try.ntmps40
    go_wp2_with (go_at_call 72; refine (rready_bad p s e _ h HE.out).mono ?_; rintro e w' ⟨rfl, rfl⟩)
    go_ret
    exact ⟨rfl, h, Only.refl p w⟩

theorem rflag_nil (w : World) : Calls Try.prog 39 #[.pointer none] w fun r w' => r = .returned (.bool false) ∧ w = w' := by
  go_enter Try.func39, Try.ntmps39
  go_wp2_with (go_at_call 37; refine (rnum_nil _ _).mono ?_; rintro e w' ⟨rfl, rfl⟩)
  go_ret
  exact ⟨rfl, rfl⟩
theorem rflag_any (p : Nat) (s : List UInt8) (e : Int) (w : World) (h : Rd w p s e) (hl : s.length ≤ 70368744177664) :
    Calls Try.prog 39 #[.pointer (some ⟨p, 0, none⟩)] w (Got w p (.bool (rflag s e).1) (rflag s e).2) := by
  have hn := rnum_any p s e 1 w h hl
  unfold rflag
  generalize rnum 1 s e = x at *
  obtain ⟨n, s1, e1⟩ := x
  have HN := Lib.hid hn
  clear hn
  simp only
  by_cases hm : 1 < n
  · rw [if_pos hm]
    go_enter Try.func39, Try.ntmps39
    go_wp2_with (first
      | (go_at_call 37; refine HN.out.mono ?_; rintro e w1 ⟨rfl, h1, ho⟩; simp only at h1)
      | (go_at_call 73; refine (rfail_any p s1 e1 4 _ h1).mono ?_; rintro e w3 ⟨rfl, h2, ho2⟩))
    go_ret
    exact ⟨rfl, h2, ho.trans ho2⟩
  · rw [if_neg hm]
    have hm : n ≤ 1 := by omega
    go_enter Try.func39, Try.ntmps39
    go_wp2_with (go_at_call 37; refine HN.out.mono ?_; rintro e w1 ⟨rfl, h1, ho⟩; simp only at h1)
    go_ret
    refine ⟨?_, h1, ho⟩
    show Ending.returned (.bool ((n : Int) == 1)) = _
    rw [show ((n : Int) == 1) = decide (n = 1) by rw [Bool.eq_iff_iff]; simp; omega]
theorem rerr_nil (w : World) : Calls Try.prog 41 #[.pointer none] w fun r w' => r = .returned (.int .i64 1) ∧ w = w' := by
  go_enter Try.func41, Try.ntmps41
  go_wp2
  go_ret
  exact ⟨rfl, rfl⟩
theorem rerr_any (p : Nat) (s : List UInt8) (e : Int) (w : World) (h : Rd w p s e) : Calls Try.prog 41 #[.pointer (some ⟨p, 0, none⟩)] w fun r w' => r = .returned (.int .i64 e) ∧ w = w' := by
  have c1 := h.cell 1
  go_enter Try.func41, Try.ntmps41
  go_wp2
  go_ret
  exact ⟨rfl, rfl⟩
end
section
open Go Go.RowKit
theorem rnum_leb (k v : Nat) (rest : List UInt8) (h1 : 1 ≤ k) (h8 : k ≤ 8) (hv : v < 256 ^ k) : rnum k (leb k v ++ rest) 0 = (v, rest, 0) := by
  have hl := leb_length k v
  rw [rnum, if_pos rfl, if_pos (by omega), if_pos (by rw [List.length_append]; omega), Int.toNat_natCast, List.take_append_of_le_length (by omega), List.drop_append_of_le_length (by omega),
    List.take_of_length_le (by omega), List.drop_of_length_le (by omega), unleb_leb k v hv, List.nil_append]
theorem wnum_fit (k v : Nat) (bs : List UInt8) (h1 : 1 ≤ k) (h8 : k ≤ 8) (hv : v < 256 ^ k) : wnum v k bs 0 = (bs ++ leb k v, 0) := by
  rw [wnum, if_pos rfl, if_pos ⟨by omega, by rw [Int.toNat_natCast]; exact hv⟩, Int.toNat_natCast]
theorem rnum_two_leb (v : Nat) (rest : List UInt8) (hv : v ≤ 65535) : rnum 2 (leb 2 v ++ rest) 0 = (v, rest, 0) := rnum_leb 2 v rest (by omega) (by omega) (by omega)
theorem rcount_leb (v : Nat) (most : Int) (rest : List UInt8) (hv : v ≤ 65535) (hm : (v : Int) ≤ most) : rcount most (leb 2 v ++ rest) 0 = (v, rest, 0) := by
  rw [rcount, rnum_two_leb v rest hv, if_neg (by simp; omega)]
theorem rcount_over (v : Nat) (most : Int) (rest : List UInt8) (hv : v ≤ 65535) (hm : most < (v : Int)) : rcount most (leb 2 v ++ rest) 0 = (0, [], 2) := by
  rw [rcount, rnum_two_leb v rest hv, if_pos ⟨rfl, hm⟩]
theorem rtext_leb (s rest : List UInt8) (room : Int) (h0 : (s.length : Int) ≤ room) (h1 : room ≤ 60000) : rtext room (leb 2 s.length ++ s ++ rest) 0 = (s, rest, 0) := by
  rw [List.append_assoc, rtext, if_pos rfl, if_pos (by omega), rcount_leb s.length room (s ++ rest) (by omega) h0, if_neg (by simp)]
  simp
theorem zeros_replicate (n : Nat) : zeros (List.replicate n 0) = true := by
  simp [zeros]
theorem wrap_unsig (i : Int) (h0 : -9223372036854775808 ≤ i) (h1 : i ≤ 9223372036854775807) : wrap64 ((unsig i : Nat) : Int) = i := by
  simp only [wrap64, unsig]
  omega
theorem wnum_more_eq (k v : Nat) (bs : List UInt8) (hv : ¬ v < 256 ^ k) : wnum v k bs 0 = ([], 1) := by
  rw [wnum, if_pos rfl, if_neg (fun h => hv (by have := h.2; rwa [Int.toNat_natCast] at this))]
theorem rflag_leb (f : Bool) (rest : List UInt8) : rflag (leb 1 (if f then 1 else 0) ++ rest) 0 = (f, rest, 0) := by
  have h := rnum_leb 1 (if f then 1 else 0) rest (by omega) (by omega) (by cases f <;> decide)
  have h' : rnum 1 (leb 1 (if f then 1 else 0) ++ rest) 0 = ((if f then 1 else 0), rest, 0) := h
  rw [rflag, h']
  cases f <;> simp
theorem wpad_ok (n : Nat) (bs : List UInt8) (h : n ≤ 60000) (hb : bs.length ≤ n) : wpad n bs 0 = (bs ++ List.replicate (n - bs.length) 0, 0) := by
  rw [wpad, if_pos rfl, if_pos (by omega), if_pos (by omega), Int.toNat_natCast]
theorem wpad_short (n : Nat) (bs : List UInt8) (h : n ≤ 60000) (hb : n < bs.length) : wpad n bs 0 = ([], 2) := by
  rw [wpad, if_pos rfl, if_pos (by omega), if_neg (by omega)]
theorem wtext_fit (s bs : List UInt8) (room : Int) (h0 : (s.length : Int) ≤ room) (h1 : room ≤ 60000) : wtext s room bs 0 = (bs ++ leb 2 s.length ++ s, 0) := by
  rw [wtext, if_pos rfl, if_pos (by omega), if_pos h0]
theorem wint_fit (i : Int) (bs : List UInt8) : wnum (unsig i) 8 bs 0 = (bs ++ leb 8 (unsig i), 0) :=
  wnum_fit 8 (unsig i) bs (by omega) (by omega) (by
    have := unsig_lt i
    have e : (256 : Nat) ^ 8 = 18446744073709551616 := by decide
    omega)
theorem wflag_fit (f : Bool) (bs : List UInt8) : wnum (if f then 1 else 0) 1 bs 0 = (bs ++ leb 1 (if f then 1 else 0), 0) :=
  wnum_fit 1 (if f then 1 else 0) bs (by omega) (by omega) (by cases f <;> decide)
theorem rint_leb (i : Int) (rest : List UInt8) : rnum 8 (leb 8 (unsig i) ++ rest) 0 = (unsig i, rest, 0) :=
  rnum_leb 8 (unsig i) rest (by omega) (by omega) (by
    have := unsig_lt i
    have e : (256 : Nat) ^ 8 = 18446744073709551616 := by decide
    omega)
theorem rend_replicate (n : Nat) : rend (List.replicate n 0) 0 = 0 := by rw [rend, if_pos rfl, zeros_replicate, if_pos rfl]
/-- 1 shifted by 8 times m, as a uint64, for m below 8. -/
theorem shl_run (P : Program) (m : Nat) (hm : m < 8) (W : World) : Sem.run P (Op.shift BinOp.shl IntKind.u64 1 IntKind.i64 (wrap64 (8 * (m : Int)))) W = .ok (.int .u64 ((256 ^ m : Nat) : Int)) W := by
  have e1 : wrap64 (8 * (m : Int)) = ((8 * m : Nat) : Int) := by simp only [wrap64]; omega
  rw [e1, shift_shl_any _ _ _ _ (by omega), Sem.run_pure]
  have e2 : min ((8 * m : Nat) : Int).toNat IntKind.u64.bits = 8 * m := by
    rw [Int.toNat_natCast]
    show min (8 * m) 64 = 8 * m
    omega
  have e3 : (256 : Nat) ^ m ≤ 256 ^ 7 := Nat.pow_le_pow_right (by omega) (by omega)
  have e4 : (256 : Nat) ^ 7 = 72057594037927936 := by decide
  have e5 : (1 : Int) * 2 ^ (8 * m) = ((256 ^ m : Nat) : Int) := by
    rw [show (256 : Nat) = 2 ^ 8 by rfl, ← Nat.pow_mul]; simp
  rw [e2, e5, IntKind.wrap_u64]
  generalize (256 : Nat) ^ m = q at *
  rw [show ((q : Nat) : Int) % 18446744073709551616 = q by omega]
theorem rskip_zeros (d : Nat) : rskip d (List.replicate d 0) 0 = ([], 0) := by
  rw [rskip, if_pos rfl, if_pos (by omega), if_pos (by simp), Int.toNat_natCast, List.take_of_length_le (by simp), zeros_replicate, if_pos rfl, List.drop_of_length_le (by simp)]
theorem zeros_set (d k : Nat) (h : k < d) : zeros ((List.replicate d 0).set k 7) = false := by
  cases e : zeros ((List.replicate d 0).set k 7) with
  | false => rfl
  | true =>
    have h7 : (7 : UInt8) ∈ (List.replicate d (0 : UInt8)).set k 7 := List.mem_set (by simpa using h) 7
    have := List.all_eq_true.1 e 7 h7
    exact absurd this (by decide)
theorem rskip_set (d k : Nat) (h : k < d) : rskip d ((List.replicate d 0).set k 7) 0 = ([], 4) := by
  rw [rskip, if_pos rfl, if_pos (by omega), if_pos (by simp), Int.toNat_natCast, List.take_of_length_le (by simp), zeros_set d k h, if_neg (by decide)]
theorem set_behind (t : List UInt8) (d k : Nat) : (t ++ List.replicate d 0).set (t.length + k) 7 = t ++ (List.replicate d 0).set k 7 := by
  rw [List.set_append_right _ _ (by omega), Nat.add_sub_cancel_left]
end
end Go.Proofs.Ytieodancccefiaa
