/- Package wire: its small helpers, each with what it answers. Package wire: a Writer in memory (a chain of pieces), and what fail, put, ready, Num, Int, Text, Flag, Pad answer and leave. Package wire: Num, Int, Text, Flag, Pad of a Writer: what each answers and leaves. -/
import Derived.Test.YtieodancccefiaaRows
import Derived.Test.YtieodancccefiaaGA
import Derived.Test.YtieodancccefiaaShelf
import Derived.Lib.Repeat
namespace Go.Proofs.Ytieodancccefiaa
section
open Go Go.RowKit
set_option maxRecDepth 100000
theorem Try.info5 : (Try.prog.info? 5).map (fun i => (i.zero, i.size, i.bytes)) = some (some (.int .u8 0), 1, 1) := by kernel_rfl

/-- lay: the n lowest bytes. -/
theorem lay_any (v n : Nat) (w : World) (h8 : n ≤ 8) (_hv2 : (v : Int) < 18446744073709551616) : Calls Try.prog 64 #[.int .u64 v, .int .i64 n] w fun e w' => e = .returned (.string (str (leb n v))) ∧ Below w.heap.size w w' := by
  obtain ⟨i0, hi, hz0, hz1, hz2⟩ := info_parts Try.info5
  have hmk := run_make (P := Try.prog) w 55 5 i0 _ Try.underlying55 hi hz0 .i64 .i64 n n (by omega) (by omega) (by rw [hz2]; omega) (by omega)
  go_enter Try.func64, Try.ntmps64
  go_wp2
  clear hmk
  go_loopw [11] (fun i wr => ∃ k : Nat, k ≤ n ∧ i = .int .i64 k ∧ Sits wr w.heap.size 5 (byteCells (leb k v ++ List.replicate (n - k) 0)) ∧ Below w.heap.size w wr) (fun i _ => n - (intOf i).toNat)
  case atStart =>
    refine ⟨0, by omega, rfl, ?_, (Below.refl _ _).alloc (Nat.le_refl _) _⟩
    rw [byteCells_made]
    exact Sits.fresh w 5 _
  case round =>
    obtain ⟨k, hk, rfl, hs, hb⟩ := hrel
    have hc : k < n → ∃ x, wr.cell? ⟨w.heap.size, k, none⟩ = some (.int .u8 x) := fun h =>
      ⟨_, (hs.cell k).trans (byteCells_get _ _ (by rw [List.length_append, leb_length]; simp; omega))⟩
    have hf := hs.warm k
    by_cases hlt : k < n
    · obtain ⟨x, hc⟩ := hc hlt
      go_wp2
      go_roundw
      case rel =>
        refine ⟨k + 1, by omega, by go_num, ?_, hb.setCell (Nat.le_refl _) _⟩
        have := hs.put k (.int .u8 (↑v / 2 ^ (8 * k) % 256))
        rw [byte_nat, byteCells_set, leb_step n v k hlt] at this
        rw [byte_nat]
        exact this
      case measure => simp [intOf]; omega
    · have hcv := run_convert_bytes_back (P := Try.prog) wr 55 9 5 ⟨w.heap.size, 0, none⟩ n (leb k v) Try.underlying55 Try.underlying5 Try.underlying9 (fun j hj => by
        rw [show (⟨w.heap.size, 0, none⟩ : Addr).add j = ⟨w.heap.size, j, none⟩ by unfold Addr.add; split <;> simp_all]
        rw [hs.cell j, byteCells_get _ _ (by simp; omega)]
        simp [List.getElem_append_left hj])
      rw [leb_length] at hcv
      obtain rfl : k = n := by omega
      go_wp2
      go_ret
      exact ⟨rfl, hb⟩

theorem isWidth_any (n : Int) (w : World) : Calls Try.prog 61 #[.int .i64 n] w fun e w' => e = .returned (.bool (decide (1 ≤ n ∧ n ≤ 8))) ∧ w = w' := by
  go_enter Try.func61, Try.ntmps61
  go_wp2
  all_goals
    go_ret
    refine ⟨?_, rfl⟩
    simp
    omega
theorem isWidth_yes (n : Int) (w : World) (h : 1 ≤ n ∧ n ≤ 8) : Calls Try.prog 61 #[.int .i64 n] w fun e w' => e = .returned (.bool true) ∧ w = w' :=
  (isWidth_any n w).mono fun _ _ ⟨he, hw⟩ => ⟨by rw [he, decide_eq_true h], hw⟩
theorem isWidth_no (n : Int) (w : World) (h : ¬(1 ≤ n ∧ n ≤ 8)) : Calls Try.prog 61 #[.int .i64 n] w fun e w' => e = .returned (.bool false) ∧ w = w' :=
  (isWidth_any n w).mono fun _ _ ⟨he, hw⟩ => ⟨by rw [he, decide_eq_false h], hw⟩

theorem isRoom_any (n : Int) (w : World) : Calls Try.prog 65 #[.int .i64 n] w fun e w' => e = .returned (.bool (decide (0 ≤ n ∧ n ≤ 60000))) ∧ w = w' := by
  go_enter Try.func65, Try.ntmps65
  go_wp2
  all_goals
    go_ret
    refine ⟨?_, rfl⟩
    simp
    omega
theorem isRoom_yes (n : Int) (w : World) (h : 0 ≤ n ∧ n ≤ 60000) : Calls Try.prog 65 #[.int .i64 n] w fun e w' => e = .returned (.bool true) ∧ w = w' :=
  (isRoom_any n w).mono fun _ _ ⟨he, hw⟩ => ⟨by rw [he, decide_eq_true h], hw⟩
theorem isRoom_no (n : Int) (w : World) (h : ¬(0 ≤ n ∧ n ≤ 60000)) : Calls Try.prog 65 #[.int .i64 n] w fun e w' => e = .returned (.bool false) ∧ w = w' :=
  (isRoom_any n w).mono fun _ _ ⟨he, hw⟩ => ⟨by rw [he, decide_eq_false h], hw⟩

end
section
open Go Go.RowKit
set_option maxRecDepth 100000
/-- The chain of pieces from v on, the last one that was put first. -/
def Chain (w : World) : Option Addr → List (List UInt8) → Prop
  | v, [] => v = none
  | v, t :: ts => t ≠ [] ∧ ∃ b q, v = some ⟨b, 0, none⟩ ∧ Sits w b 104 #[.pointer q, .string (str t)] ∧ Chain w q ts
/-- At p lies a Writer that has bytes bs and error e. -/
def Wr (w : World) (p : Nat) (bs : List UInt8) (e : Int) : Prop :=
  ∃ v ts, Sits w p 62 #[.pointer v, .int .i64 bs.length, .int .i64 e] ∧ Chain w v ts ∧ ts.reverse.flatten = bs ∧ (e ≠ 0 → bs = [])

theorem Chain.keep {w w' : World} (hk : ∀ b cs, Sits w b 104 cs → Sits w' b 104 cs) : ∀ {ts : List (List UInt8)} {v : Option Addr}, Chain w v ts → Chain w' v ts
  | [], _, h => h
  | _ :: _, _, ⟨hn, b, q, hv, hs, hc⟩ => ⟨hn, b, q, hv, hk _ _ hs, Chain.keep hk hc⟩
theorem Wr.keep {w w' : World} {p : Nat} {bs : List UInt8} {e : Int} (h : Wr w p bs e) (hk : ∀ b t cs, t = 104 ∨ b = p → Sits w b t cs → Sits w' b t cs) : Wr w' p bs e := by
  obtain ⟨v, ts, hs, hc, r⟩ := h
  exact ⟨v, ts, hk _ _ _ (.inr rfl) hs, hc.keep (fun b cs => hk b 104 cs (.inl rfl)), r⟩
theorem Wr.below {w w' : World} {p : Nat} {bs : List UInt8} {e : Int} (h : Wr w p bs e) (hb : Below w.heap.size w w') : Wr w' p bs e :=
  h.keep fun _ _ _ _ hs => hs.below' hb
theorem Wr.lt {w : World} {p : Nat} {bs : List UInt8} {e : Int} (h : Wr w p bs e) : p < w.heap.size := by
  obtain ⟨v, ts, hs, _⟩ := h
  exact hs.lt
/-- A block of another type that turns leaves the writer. -/
theorem Wr.only {w w' : World} {p q t : Nat} {cs : Array Value} {bs : List UInt8} {e : Int} (h : Wr w p bs e) (ho : Only q w w') (hq : Sits w q t cs) (ht : t ≠ 104) (hqp : q ≠ p) : Wr w' p bs e :=
  h.keep fun b u ds hu hs => hs.only ho (by
    rintro rfl
    rcases hu with rfl | rfl
    · exact (hs.apart hq (fun e => ht e.symm)) rfl
    · exact hqp rfl)
theorem Wr.zero (w : World) : Wr (w.alloc (.cells #[.pointer none, .int .i64 0, .int .i64 0] 62)) w.heap.size [] 0 :=
  ⟨none, [], Sits.fresh w _ _, rfl, rfl, fun _ => rfl⟩

theorem wfail_any (p : Nat) (bs : List UInt8) (x e : Int) (w : World) (h : Wr w p bs x) : Calls Try.prog 62 #[.pointer (some ⟨p, 0, none⟩), .int .i64 e] w fun r w' => r = .returned (.pointer (some ⟨p, 0, none⟩)) ∧ Wr w' p [] e ∧ Only p w w' := by
  obtain ⟨v, ts, hs, hc, hf, he⟩ := h
  have c0 := hs.cell 0
  have c1 := hs.cell 1
  have c2 := hs.cell 2
  have f0 := hs.warm 0
  have f1 := hs.warm 1
  have f2 := hs.warm 2
  go_enter Try.func62, Try.ntmps62
  go_wp2
  go_ret
  exact ⟨rfl, ⟨_, [], ((hs.put 0 _).put 1 _).put 2 _, rfl, rfl, fun _ => rfl⟩, (((Only.refl p w).store 0 _).store 1 _).store 2 _⟩

theorem wput_any (p : Nat) (bs : List UInt8) (s : ByteArray) (w : World) (h : Wr w p bs 0) (hl : bs.length + s.size ≤ 70368744177664) : Calls Try.prog 63 #[.pointer (some ⟨p, 0, none⟩), .string s] w fun r w' => r = .returned (.pointer (some ⟨p, 0, none⟩)) ∧ Wr w' p (bs ++ s.data.toList) 0 ∧ Only p w w' := by
  obtain ⟨v, ts, hs, hc, hf, he⟩ := h
  have c0 := hs.cell 0
  have c1 := hs.cell 1
  have f0 := hs.warm 0
  have f1 := hs.warm 1
  have hp := hs.lt
  have he : s.toList = s.data.toList := ByteArray.toList_eq s
  have HE := Lib.hid he
  clear he
  by_cases hz : s.toList = []
  · have hz' : (!s.toList.isEmpty) = false := by simp [hz]
    have HZ := Lib.hid hz
    clear hz
    go_enter Try.func63, Try.ntmps63
    go_wp2
    go_ret
    rw [HE.out] at HZ
    rw [HZ.out, List.append_nil]
    exact ⟨rfl, ⟨v, ts, hs, hc, hf, fun h => absurd rfl h⟩, Only.refl p w⟩
  · have hz' : (!s.toList.isEmpty) = true := by simp [hz]
    have HZ := Lib.hid hz
    clear hz
    go_enter Try.func63, Try.ntmps63
    go_wp2
    go_ret
    refine ⟨rfl, ⟨some ⟨w.heap.size, 0, none⟩, s.data.toList :: ts, ?_, ⟨by rw [← HE.out]; exact HZ.out, w.heap.size, v, rfl, ?_, ?_⟩, by simp [hf], fun h => absurd rfl h⟩, (((Only.refl p w).store 0 _).store 1 _).alloc _⟩
    · have := ((hs.put 0 (.pointer (some ⟨w.heap.size, 0, none⟩))).put 1 (.int .i64 (↑bs.length + ↑s.size))).alloc (Obj.cells #[Value.pointer v, Value.string s] 104)
      rw [List.length_append, list_size, Int.natCast_add]
      exact this
    · rw [str_of]
      have := Sits.fresh ((w.setCell ⟨p, 0, none⟩ (.pointer (some ⟨w.heap.size, 0, none⟩))).setCell ⟨p, 1, none⟩ (.int .i64 (↑bs.length + ↑s.size))) 104 #[.pointer v, .string s]
      simpa using this
    · refine hc.keep fun b cs hb => ((hb.away (p := ⟨p, 0, none⟩) ?_ _).away (p := ⟨p, 1, none⟩) ?_ _).alloc _ <;> exact hb.apart hs (by decide)

theorem wready_nil (w : World) : Calls Try.prog 60 #[.pointer none] w fun e w' => e = .returned (.bool false) ∧ w = w' := by
  go_enter Try.func60, Try.ntmps60
  go_wp2
  go_ret
  exact ⟨rfl, rfl⟩
theorem wready_any (p : Nat) (bs : List UInt8) (e : Int) (w : World) (h : Wr w p bs e) : Calls Try.prog 60 #[.pointer (some ⟨p, 0, none⟩)] w fun r w' => r = .returned (.bool (e == 0)) ∧ w = w' := by
  obtain ⟨v, ts, hs, _⟩ := h
  have c2 := hs.cell 2
  go_enter Try.func60, Try.ntmps60
  go_wp2
  go_ret
  exact ⟨rfl, rfl⟩

theorem wready_ok (p : Nat) (bs : List UInt8) (w : World) (h : Wr w p bs 0) : Calls Try.prog 60 #[.pointer (some ⟨p, 0, none⟩)] w fun r w' => r = .returned (.bool true) ∧ w = w' :=
  wready_any p bs 0 w h
theorem wready_bad (p : Nat) (bs : List UInt8) (e : Int) (w : World) (h : Wr w p bs e) (he : e ≠ 0) : Calls Try.prog 60 #[.pointer (some ⟨p, 0, none⟩)] w fun r w' => r = .returned (.bool false) ∧ w = w' :=
  (wready_any p bs e w h).mono fun _ _ ⟨hr, hw⟩ => ⟨by rw [hr, beq_eq_false_iff_ne.2 he], hw⟩

end
section
open Go Go.RowKit
set_option maxRecDepth 100000

/-- What Num makes of bytes and an error. -/
def wnum (v : Nat) (n : Int) (bs : List UInt8) (e : Int) : List UInt8 × Int :=
  if e = 0 then (if (1 ≤ n ∧ n ≤ 8) ∧ v < 256 ^ n.toNat then (bs ++ leb n.toNat v, 0) else ([], 1)) else (bs, e)
/-- What Text makes of bytes and an error. -/
def wtext (s : List UInt8) (room : Int) (bs : List UInt8) (e : Int) : List UInt8 × Int :=
  if e = 0 then (if 0 ≤ room ∧ room ≤ 60000 then (if (s.length : Int) ≤ room then (bs ++ leb 2 s.length ++ s, 0) else ([], 2)) else ([], 1)) else (bs, e)
/-- What Pad makes of bytes and an error. -/
def wpad (n : Int) (bs : List UInt8) (e : Int) : List UInt8 × Int :=
  if e = 0 then (if n ≤ 60000 then (if (bs.length : Int) ≤ n then (bs ++ List.replicate (n.toNat - bs.length) 0, 0) else ([], 2)) else ([], 1)) else (bs, e)

/-- A call that answers its own receiver and leaves it with these bytes and this error. -/
def Wrote (w : World) (p : Nat) (s : List UInt8 × Int) (r : Ending) (w' : World) : Prop := r = .returned (.pointer (some ⟨p, 0, none⟩)) ∧ Wr w' p s.1 s.2 ∧ Only p w w'

theorem wshift_zero {v m : Nat} (h : v < 256 ^ m) : (v : Int) / 2 ^ (8 * m) = 0 := by
  rw [show (256 : Nat) = 2 ^ 8 by rfl, ← Nat.pow_mul] at h
  have : v / 2 ^ (8 * m) = 0 := Nat.div_eq_of_lt h
  have e : ((v / 2 ^ (8 * m) : Nat) : Int) = 0 := by rw [this]; rfl
  simpa using e
theorem wnum_nil (v n : Int) (w : World) : Calls Try.prog 25 #[.pointer none, .int .u64 v, .int .i64 n] w fun e w' => e = .returned (.pointer none) ∧ w = w' := by
  go_enter Try.func25, Try.ntmps25
  go_wp2_with (go_at_call 60; refine (wready_nil _).mono ?_; rintro e w' ⟨rfl, rfl⟩)
  go_ret
  exact ⟨rfl, rfl⟩

theorem wshift_more {v m : Nat} (h : ¬ v < 256 ^ m) : ¬ ((v : Int) / 2 ^ (8 * m) = 0) := by
  rw [show (256 : Nat) = 2 ^ 8 by rfl, ← Nat.pow_mul] at h
  intro e
  have e2 : ((v / 2 ^ (8 * m) : Nat) : Int) = 0 := by simpa using e
  have e3 : v / 2 ^ (8 * m) = 0 := by omega
  rcases Nat.div_eq_zero_iff.1 e3 with h2 | h2
  · exact absurd h2 (by have := Nat.two_pow_pos (8 * m); omega)
  · exact h h2

theorem wnum_bad (p : Nat) (bs : List UInt8) (e v n : Int) (w : World) (h : Wr w p bs e) (he : e ≠ 0) :
    Calls Try.prog 25 #[.pointer (some ⟨p, 0, none⟩), .int .u64 v, .int .i64 n] w (Wrote w p (bs, e)) := by
  have HE := Lib.hid he
  clear he
  go_enter Try.func25, Try.ntmps25
  go_wp2_with (go_at_call 60; refine (wready_bad p bs e _ h HE.out).mono ?_; rintro e w' ⟨rfl, rfl⟩)
  go_ret
  exact ⟨rfl, h, Only.refl p w⟩
theorem wnum_width (p : Nat) (bs : List UInt8) (v n : Int) (w : World) (h : Wr w p bs 0) (hn : ¬(1 ≤ n ∧ n ≤ 8)) :
    Calls Try.prog 25 #[.pointer (some ⟨p, 0, none⟩), .int .u64 v, .int .i64 n] w (Wrote w p ([], 1)) := by
  have HN := Lib.hid hn
  clear hn
  go_enter Try.func25, Try.ntmps25
  go_wp2_with (first
    | (go_at_call 60; refine (wready_ok p bs _ h).mono ?_; rintro e w' ⟨rfl, rfl⟩)
    | (go_at_call 61; refine (isWidth_no _ _ HN.out).mono ?_; rintro e w' ⟨rfl, rfl⟩)
    | (go_at_call 62; refine (wfail_any p bs 0 1 _ h).mono ?_; rintro e w' ⟨rfl, h'⟩))
  go_ret
  exact ⟨rfl, h'⟩
theorem wnum_more (p : Nat) (bs : List UInt8) (v m : Nat) (w : World) (h : Wr w p bs 0) (h1 : 1 ≤ m) (h8 : m < 8) (hf : ¬ v < 256 ^ m) :
    Calls Try.prog 25 #[.pointer (some ⟨p, 0, none⟩), .int .u64 v, .int .i64 m] w (Wrote w p ([], 1)) := by
  have hq : ((v : Int) / 2 ^ (8 * m) != 0) = true := by simpa using wshift_more hf
  have hq2 : ((v : Int) / 2 ^ (8 * m) == 0) = false := by simpa using wshift_more hf
  clear hf
  go_enter Try.func25, Try.ntmps25
  go_wp2_with (first
    | (go_at_call 60; refine (wready_ok p bs _ h).mono ?_; rintro e w' ⟨rfl, rfl⟩)
    | (go_at_call 61; refine (isWidth_yes _ _ (by omega)).mono ?_; rintro e w' ⟨rfl, rfl⟩)
    | (go_at_call 62; refine (wfail_any p bs 0 1 _ h).mono ?_; rintro e w' ⟨rfl, h'⟩))
  go_ret
  exact ⟨rfl, h'⟩
theorem wnum_fits (p : Nat) (bs : List UInt8) (v m : Nat) (w : World) (h : Wr w p bs 0) (h1 : 1 ≤ m) (h8 : m ≤ 8) (hv : (v : Int) < 18446744073709551616) (hl : bs.length ≤ 70368744177600) (hf : v < 256 ^ m) :
    Calls Try.prog 25 #[.pointer (some ⟨p, 0, none⟩), .int .u64 v, .int .i64 m] w (Wrote w p (bs ++ leb m v, 0)) := by
  have hq := wshift_zero hf
  clear hf
  go_enter Try.func25, Try.ntmps25
  go_wp2_with (first
    | (go_at_call 60; refine (wready_ok p bs _ h).mono ?_; rintro e w' ⟨rfl, rfl⟩)
    | (go_at_call 61; refine (isWidth_yes _ _ (by omega)).mono ?_; rintro e w' ⟨rfl, rfl⟩)
    | (go_at_call 64; refine (lay_any v m _ (by omega) hv).mono ?_; rintro e w1 ⟨rfl, hb⟩; have h' := h.below hb)
    | (go_at_call 63; refine (wput_any p bs (str (leb m v)) _ h' (by rw [str_size, leb_length]; omega)).mono ?_; rintro e w2 ⟨rfl, hw⟩))
  go_ret
  rw [str_list] at hw
  exact ⟨rfl, hw.1, (Only.of_below p hb).trans hw.2⟩
theorem wnum_any (p : Nat) (bs : List UInt8) (e : Int) (v : Nat) (n : Int) (w : World) (h : Wr w p bs e) (hv : (v : Int) < 18446744073709551616) (hl : bs.length ≤ 70368744177600) :
    Calls Try.prog 25 #[.pointer (some ⟨p, 0, none⟩), .int .u64 v, .int .i64 n] w (Wrote w p (wnum v n bs e)) := by
  by_cases he : e = 0
  · subst he
    by_cases hn : 1 ≤ n ∧ n ≤ 8
    · obtain ⟨m, rfl⟩ := Int.eq_ofNat_of_zero_le (show 0 ≤ n by omega)
      by_cases hf : v < 256 ^ m
      · rw [show wnum v m bs 0 = (bs ++ leb m v, 0) by simp [wnum, hn, hf]]
        exact wnum_fits p bs v m w h (by omega) (by omega) hv hl hf
      · rw [show wnum v m bs 0 = ([], 1) by simp [wnum, hf]]
        refine wnum_more p bs v m w h (by omega) ?_ hf
        by_cases h8 : m < 8
        · exact h8
        · obtain rfl : m = 8 := by omega
          exact absurd (show v < 256 ^ 8 by omega) hf
    · rw [show wnum v n bs 0 = ([], 1) by simp [wnum, hn]]
      exact wnum_width p bs v n w h hn
  · rw [show wnum v n bs e = (bs, e) by simp [wnum, he]]
    exact wnum_bad p bs e v n w h he

theorem wrap_u64_nat (v : Int) : IntKind.u64.wrap v = ((v % 18446744073709551616).toNat : Int) := by
  rw [IntKind.wrap_u64]; omega
theorem wint_nil (v : Int) (w : World) : Calls Try.prog 26 #[.pointer none, .int .i64 v] w fun e w' => e = .returned (.pointer none) ∧ w = w' := by
  go_enter Try.func26, Try.ntmps26
  go_wp2_with fail
  refine (wnum_nil _ 8 _).mono ?_
  rintro e w' ⟨rfl, rfl⟩
  go_wp2
  go_ret
  exact ⟨rfl, rfl⟩
/-- An int as a number without a sign. -/
def unsig (v : Int) : Nat := (v % 18446744073709551616).toNat
theorem unsig_lt (v : Int) : (unsig v : Int) < 18446744073709551616 := by unfold unsig; omega
theorem wint_any (p : Nat) (bs : List UInt8) (e v : Int) (w : World) (h : Wr w p bs e) (hl : bs.length ≤ 70368744177600) :
    Calls Try.prog 26 #[.pointer (some ⟨p, 0, none⟩), .int .i64 v] w (Wrote w p (wnum (unsig v) 8 bs e)) := by
  go_enter Try.func26, Try.ntmps26
  go_wp2_with fail
  rw [wrap_u64_nat]
  refine (wnum_any p bs e (unsig v) 8 _ h (unsig_lt v) hl).mono ?_
  rintro e w' ⟨rfl, h'⟩
  go_wp2
  go_ret
  exact ⟨rfl, h'⟩
theorem wflag_any (p : Nat) (bs : List UInt8) (e : Int) (v : Bool) (w : World) (h : Wr w p bs e) (hl : bs.length ≤ 70368744177600) :
    Calls Try.prog 27 #[.pointer (some ⟨p, 0, none⟩), .bool v] w (Wrote w p (wnum (if v then 1 else 0) 1 bs e)) := by
  cases v
  · go_enter Try.func27, Try.ntmps27
    go_wp2_with (go_at_call 25; refine (wnum_any p bs e 0 1 _ h (by omega) hl).mono ?_; rintro e w' ⟨rfl, h'⟩)
    go_ret
    exact ⟨rfl, h'⟩
  · go_enter Try.func27, Try.ntmps27
    go_wp2_with (go_at_call 25; refine (wnum_any p bs e 1 1 _ h (by omega) hl).mono ?_; rintro e w' ⟨rfl, h'⟩)
    go_ret
    exact ⟨rfl, h'⟩
theorem wtext_nil (s : ByteArray) (room : Int) (w : World) : Calls Try.prog 28 #[.pointer none, .string s, .int .i64 room] w fun e w' => e = .returned (.pointer none) ∧ w = w' := by
  go_enter Try.func28, Try.ntmps28
  go_wp2_with (go_at_call 60; refine (wready_nil _).mono ?_; rintro e w' ⟨rfl, rfl⟩)
  go_ret
  exact ⟨rfl, rfl⟩
theorem wtext_any (p : Nat) (bs : List UInt8) (e : Int) (s : ByteArray) (room : Int) (w : World) (h : Wr w p bs e) (hl : bs.length ≤ 35184372088832) :
    Calls Try.prog 28 #[.pointer (some ⟨p, 0, none⟩), .string s, .int .i64 room] w (Wrote w p (wtext s.data.toList room bs e)) := by
  have hs := list_size s
  by_cases he : e = 0
  · subst he
    by_cases hr : 0 ≤ room ∧ room ≤ 60000
    · have hroom : room ≤ 60000 := hr.2
      by_cases hsz : (s.size : Int) ≤ room
      · rw [show wtext s.data.toList room bs 0 = (bs ++ leb 2 s.size ++ s.data.toList, 0) by simp [wtext, hr, hs, hsz]]
        have hs6 : (s.size : Int) ≤ 60000 := by omega
        have hz : (str (leb 2 s.size)).size ≤ 2 := by rw [str_size, leb_length]; omega
        have HR := Lib.hid hr
        clear hr hs
        go_enter Try.func28, Try.ntmps28
        go_wp2_with (first
          | (go_at_call 60; refine (wready_ok p bs _ h).mono ?_; rintro e w' ⟨rfl, rfl⟩)
          | (go_at_call 65; refine (isRoom_yes _ _ HR.out).mono ?_; rintro e w' ⟨rfl, rfl⟩)
          | (go_at_call 64; refine (lay_any s.size 2 _ (by omega) (by omega)).mono ?_; rintro e w1 ⟨rfl, hb⟩; have h' := h.below hb)
          | (go_at_call 63; refine (wput_any p bs _ _ h' (by rw [append_size]; omega)).mono ?_; rintro e w2 ⟨rfl, hw⟩))
        go_ret
        rw [append_list, str_list, ← List.append_assoc] at hw
        exact ⟨rfl, hw.1, (Only.of_below p hb).trans hw.2⟩
      · rw [show wtext s.data.toList room bs 0 = ([], 2) by simp [wtext, hr, hs, hsz]]
        have hsz : room < (s.size : Int) := by omega
        have HR := Lib.hid hr
        clear hr hs
        go_enter Try.func28, Try.ntmps28
        go_wp2_with (first
          | (go_at_call 60; refine (wready_ok p bs _ h).mono ?_; rintro e w' ⟨rfl, rfl⟩)
          | (go_at_call 65; refine (isRoom_yes _ _ HR.out).mono ?_; rintro e w' ⟨rfl, rfl⟩)
          | (go_at_call 62; refine (wfail_any p bs 0 2 _ h).mono ?_; rintro e w' ⟨rfl, h'⟩))
        go_ret
        exact ⟨rfl, h'⟩
    · rw [show wtext s.data.toList room bs 0 = ([], 1) by simp [wtext, hr]]
      have HR := Lib.hid hr
      clear hr hs
      go_enter Try.func28, Try.ntmps28
      go_wp2_with (first
        | (go_at_call 60; refine (wready_ok p bs _ h).mono ?_; rintro e w' ⟨rfl, rfl⟩)
        | (go_at_call 65; refine (isRoom_no _ _ HR.out).mono ?_; rintro e w' ⟨rfl, rfl⟩)
        | (go_at_call 62; refine (wfail_any p bs 0 1 _ h).mono ?_; rintro e w' ⟨rfl, h'⟩))
      go_ret
      exact ⟨rfl, h'⟩
  · rw [show wtext s.data.toList room bs e = (bs, e) by simp [wtext, he]]
    have HE := Lib.hid he
    clear he hs
    go_enter Try.func28, Try.ntmps28
    go_wp2_with (go_at_call 60; refine (wready_bad p bs e _ h HE.out).mono ?_; rintro e w' ⟨rfl, rfl⟩)
    go_ret
    exact ⟨rfl, h, Only.refl p w⟩

theorem wrepeat_zero : ∀ n, Lib.repeatL [(0 : UInt8)] n = List.replicate n 0
  | 0 => rfl
  | n + 1 => by rw [Lib.repeatL, wrepeat_zero n, List.replicate_succ]; rfl
end
end Go.Proofs.Ytieodancccefiaa
