/- Package wire: a Writer in memory (a chain of pieces), and what fail, put, ready, Num, Int, Text, Flag, Pad answer and leave. Package wire: Num, Int, Text, Flag, Pad of a Writer: what each answers and leaves. Package wire: Bytes of a Writer: the text of all that was put, or the first error; and the zero Writer. -/
import Derived.Test.YtlaclbcckadmkaaGreatGG
import Derived.Test.YtlaclbcckadmkaaGreatShelf
import Derived.Test.YtlaclbcckadmkaaGreatGA
namespace Go.Proofs.YtlaclbcckadmkaaGreat
open Go Go.RowKit
set_option maxRecDepth 100000
/-- The chain of pieces from v on, the last one that was put first. -/
def Chain (w : World) : Option Addr → List (List UInt8) → Prop
  | v, [] => v = none
  | v, t :: ts => t ≠ [] ∧ ∃ b q, v = some ⟨b, 0, none⟩ ∧ Sits w b 170 #[.pointer q, .string (str t)] ∧ Chain w q ts
/-- At p lies a Writer that has bytes bs and error e. -/
def Wr (w : World) (p : Nat) (bs : List UInt8) (e : Int) : Prop :=
  ∃ v ts, Sits w p 140 #[.pointer v, .int .i64 bs.length, .int .i64 e] ∧ Chain w v ts ∧ ts.reverse.flatten = bs ∧ (e ≠ 0 → bs = [])

theorem Chain.keep {w w' : World} (hk : ∀ b cs, Sits w b 170 cs → Sits w' b 170 cs) : ∀ {ts : List (List UInt8)} {v : Option Addr}, Chain w v ts → Chain w' v ts
  | [], _, h => h
  | _ :: _, _, ⟨hn, b, q, hv, hs, hc⟩ => ⟨hn, b, q, hv, hk _ _ hs, Chain.keep hk hc⟩
theorem Wr.keep {w w' : World} {p : Nat} {bs : List UInt8} {e : Int} (h : Wr w p bs e) (hk : ∀ b t cs, t = 170 ∨ b = p → Sits w b t cs → Sits w' b t cs) : Wr w' p bs e := by
  obtain ⟨v, ts, hs, hc, r⟩ := h
  exact ⟨v, ts, hk _ _ _ (.inr rfl) hs, hc.keep (fun b cs => hk b 170 cs (.inl rfl)), r⟩
theorem Wr.below {w w' : World} {p : Nat} {bs : List UInt8} {e : Int} (h : Wr w p bs e) (hb : Below w.heap.size w w') : Wr w' p bs e :=
  h.keep fun _ _ _ _ hs => hs.below' hb
theorem Wr.lt {w : World} {p : Nat} {bs : List UInt8} {e : Int} (h : Wr w p bs e) : p < w.heap.size := by
  obtain ⟨v, ts, hs, _⟩ := h
  exact hs.lt
/-- A block of another type that turns leaves the writer. -/
theorem Wr.only {w w' : World} {p q t : Nat} {cs : Array Value} {bs : List UInt8} {e : Int} (h : Wr w p bs e) (ho : Only q w w') (hq : Sits w q t cs) (ht : t ≠ 170) (hqp : q ≠ p) : Wr w' p bs e :=
  h.keep fun b u ds hu hs => hs.only ho (by
    rintro rfl
    rcases hu with rfl | rfl
    · exact (hs.apart hq (fun e => ht e.symm)) rfl
    · exact hqp rfl)
theorem Wr.zero (w : World) : Wr (w.alloc (.cells #[.pointer none, .int .i64 0, .int .i64 0] 140)) w.heap.size [] 0 :=
  ⟨none, [], Sits.fresh w _ _, rfl, rfl, fun _ => rfl⟩

theorem wfail_any (p : Nat) (bs : List UInt8) (x e : Int) (w : World) (h : Wr w p bs x) : Calls Tryz.prog 121 #[.pointer (some ⟨p, 0, none⟩), .int .i64 e] w fun r w' => r = .returned (.pointer (some ⟨p, 0, none⟩)) ∧ Wr w' p [] e ∧ Only p w w' := by
  obtain ⟨v, ts, hs, hc, hf, he⟩ := h
  have c0 := hs.cell 0
  have c1 := hs.cell 1
  have c2 := hs.cell 2
  have f0 := hs.warm 0
  have f1 := hs.warm 1
  have f2 := hs.warm 2
  go_enter Tryz.func121, Tryz.ntmps121
  go_wp2
  go_ret
  exact ⟨rfl, ⟨_, [], ((hs.put 0 _).put 1 _).put 2 _, rfl, rfl, fun _ => rfl⟩, (((Only.refl p w).store 0 _).store 1 _).store 2 _⟩

theorem wput_any (p : Nat) (bs : List UInt8) (s : ByteArray) (w : World) (h : Wr w p bs 0) (hl : bs.length + s.size ≤ 70368744177664) : Calls Tryz.prog 122 #[.pointer (some ⟨p, 0, none⟩), .string s] w fun r w' => r = .returned (.pointer (some ⟨p, 0, none⟩)) ∧ Wr w' p (bs ++ s.data.toList) 0 ∧ Only p w w' := by
  obtain ⟨v, ts, hs, hc, hf, he⟩ := h
  have c0 := hs.cell 0
  have c1 := hs.cell 1
  have f0 := hs.warm 0
  have f1 := hs.warm 1
  have hp := hs.lt
  have he : s.toList = s.data.toList := ByteArray.toList_eq s
  have HE := Lib.hid he
  clear he
  by_cases hz : s.toList = []
  · have hz' : (!s.toList.isEmpty) = false := by simp [hz]
    have HZ := Lib.hid hz
    clear hz
    go_enter Tryz.func122, Tryz.ntmps122
    go_wp2
    go_ret
    rw [HE.out] at HZ
    rw [HZ.out, List.append_nil]
    exact ⟨rfl, ⟨v, ts, hs, hc, hf, fun h => absurd rfl h⟩, Only.refl p w⟩
  · have hz' : (!s.toList.isEmpty) = true := by simp [hz]
    have HZ := Lib.hid hz
    clear hz
    go_enter Tryz.func122, Tryz.ntmps122
    go_wp2
    go_ret
    refine ⟨rfl, ⟨some ⟨w.heap.size, 0, none⟩, s.data.toList :: ts, ?_, ⟨by rw [← HE.out]; exact HZ.out, w.heap.size, v, rfl, ?_, ?_⟩, by simp [hf], fun h => absurd rfl h⟩, (((Only.refl p w).store 0 _).store 1 _).alloc _⟩
    · have := ((hs.put 0 (.pointer (some ⟨w.heap.size, 0, none⟩))).put 1 (.int .i64 (↑bs.length + ↑s.size))).alloc (Obj.cells #[Value.pointer v, Value.string s] 170)
      rw [List.length_append, list_size, Int.natCast_add]
      exact this
    · rw [str_of]
      have := Sits.fresh ((w.setCell ⟨p, 0, none⟩ (.pointer (some ⟨w.heap.size, 0, none⟩))).setCell ⟨p, 1, none⟩ (.int .i64 (↑bs.length + ↑s.size))) 170 #[.pointer v, .string s]
      simpa using this
    · refine hc.keep fun b cs hb => ((hb.away (p := ⟨p, 0, none⟩) ?_ _).away (p := ⟨p, 1, none⟩) ?_ _).alloc _ <;> exact hb.apart hs (by decide)

theorem wready_nil (w : World) : Calls Tryz.prog 119 #[.pointer none] w fun e w' => e = .returned (.bool false) ∧ w = w' := by
  go_enter Tryz.func119, Tryz.ntmps119
  go_wp2
  go_ret
  exact ⟨rfl, rfl⟩
theorem wready_any (p : Nat) (bs : List UInt8) (e : Int) (w : World) (h : Wr w p bs e) : Calls Tryz.prog 119 #[.pointer (some ⟨p, 0, none⟩)] w fun r w' => r = .returned (.bool (e == 0)) ∧ w = w' := by
  obtain ⟨v, ts, hs, _⟩ := h
  have c2 := hs.cell 2
  go_enter Tryz.func119, Tryz.ntmps119
  go_wp2
  go_ret
  exact ⟨rfl, rfl⟩

theorem wready_ok (p : Nat) (bs : List UInt8) (w : World) (h : Wr w p bs 0) : Calls Tryz.prog 119 #[.pointer (some ⟨p, 0, none⟩)] w fun r w' => r = .returned (.bool true) ∧ w = w' :=
  wready_any p bs 0 w h
theorem wready_bad (p : Nat) (bs : List UInt8) (e : Int) (w : World) (h : Wr w p bs e) (he : e ≠ 0) : Calls Tryz.prog 119 #[.pointer (some ⟨p, 0, none⟩)] w fun r w' => r = .returned (.bool false) ∧ w = w' :=
  (wready_any p bs e w h).mono fun _ _ ⟨hr, hw⟩ => ⟨by rw [hr, beq_eq_false_iff_ne.2 he], hw⟩

end Go.Proofs.YtlaclbcckadmkaaGreat
namespace Go.Proofs.YtlaclbcckadmkaaGreat
open Go Go.RowKit
set_option maxRecDepth 100000

/-- What Num makes of bytes and an error. -/
def wnum (v : Nat) (n : Int) (bs : List UInt8) (e : Int) : List UInt8 × Int :=
  if e = 0 then (if (1 ≤ n ∧ n ≤ 8) ∧ v < 256 ^ n.toNat then (bs ++ leb n.toNat v, 0) else ([], 1)) else (bs, e)
/-- What Text makes of bytes and an error. -/
def wtext (s : List UInt8) (room : Int) (bs : List UInt8) (e : Int) : List UInt8 × Int :=
  if e = 0 then (if 0 ≤ room ∧ room ≤ 60000 then (if (s.length : Int) ≤ room then (bs ++ leb 2 s.length ++ s, 0) else ([], 2)) else ([], 1)) else (bs, e)
/-- What Pad makes of bytes and an error. -/
def wpad (n : Int) (bs : List UInt8) (e : Int) : List UInt8 × Int :=
  if e = 0 then (if n ≤ 60000 then (if (bs.length : Int) ≤ n then (bs ++ List.replicate (n.toNat - bs.length) 0, 0) else ([], 2)) else ([], 1)) else (bs, e)

/-- A call that answers its own receiver and leaves it with these bytes and this error. -/
def Wrote (w : World) (p : Nat) (s : List UInt8 × Int) (r : Ending) (w' : World) : Prop := r = .returned (.pointer (some ⟨p, 0, none⟩)) ∧ Wr w' p s.1 s.2 ∧ Only p w w'

theorem wshift_zero {v m : Nat} (h : v < 256 ^ m) : (v : Int) / 2 ^ (8 * m) = 0 := by
  rw [show (256 : Nat) = 2 ^ 8 by rfl, ← Nat.pow_mul] at h
  have : v / 2 ^ (8 * m) = 0 := Nat.div_eq_of_lt h
  have e : ((v / 2 ^ (8 * m) : Nat) : Int) = 0 := by rw [this]; rfl
  simpa using e
theorem wnum_nil (v n : Int) (w : World) : Calls Tryz.prog 95 #[.pointer none, .int .u64 v, .int .i64 n] w fun e w' => e = .returned (.pointer none) ∧ w = w' := by
  go_enter Tryz.func95, Tryz.ntmps95
  go_wp2_with (go_at_call 119; refine (wready_nil _).mono ?_; rintro e w' ⟨rfl, rfl⟩)
  go_ret
  exact ⟨rfl, rfl⟩

theorem wshift_more {v m : Nat} (h : ¬ v < 256 ^ m) : ¬ ((v : Int) / 2 ^ (8 * m) = 0) := by
  rw [show (256 : Nat) = 2 ^ 8 by rfl, ← Nat.pow_mul] at h
  intro e
  have e2 : ((v / 2 ^ (8 * m) : Nat) : Int) = 0 := by simpa using e
  have e3 : v / 2 ^ (8 * m) = 0 := by omega
  rcases Nat.div_eq_zero_iff.1 e3 with h2 | h2
  · exact absurd h2 (by have := Nat.two_pow_pos (8 * m); omega)
  · exact h h2

theorem wnum_bad (p : Nat) (bs : List UInt8) (e v n : Int) (w : World) (h : Wr w p bs e) (he : e ≠ 0) :
    Calls Tryz.prog 95 #[.pointer (some ⟨p, 0, none⟩), .int .u64 v, .int .i64 n] w (Wrote w p (bs, e)) := by
  have HE := Lib.hid he
  clear he
  go_enter Tryz.func95, Tryz.ntmps95
  go_wp2_with (go_at_call 119; refine (wready_bad p bs e _ h HE.out).mono ?_; rintro e w' ⟨rfl, rfl⟩)
  go_ret
  exact ⟨rfl, h, Only.refl p w⟩
theorem wnum_width (p : Nat) (bs : List UInt8) (v n : Int) (w : World) (h : Wr w p bs 0) (hn : ¬(1 ≤ n ∧ n ≤ 8)) :
    Calls Tryz.prog 95 #[.pointer (some ⟨p, 0, none⟩), .int .u64 v, .int .i64 n] w (Wrote w p ([], 1)) := by
  have HN := Lib.hid hn
  clear hn
  go_enter Tryz.func95, Tryz.ntmps95
  go_wp2_with (first
    | (go_at_call 119; refine (wready_ok p bs _ h).mono ?_; rintro e w' ⟨rfl, rfl⟩)
    | (go_at_call 120; refine (isWidth_no _ _ HN.out).mono ?_; rintro e w' ⟨rfl, rfl⟩)
    | (go_at_call 121; refine (wfail_any p bs 0 1 _ h).mono ?_; rintro e w' ⟨rfl, h'⟩))
  go_ret
  exact ⟨rfl, h'⟩
theorem wnum_more (p : Nat) (bs : List UInt8) (v m : Nat) (w : World) (h : Wr w p bs 0) (h1 : 1 ≤ m) (h8 : m < 8) (hf : ¬ v < 256 ^ m) :
    Calls Tryz.prog 95 #[.pointer (some ⟨p, 0, none⟩), .int .u64 v, .int .i64 m] w (Wrote w p ([], 1)) := by
  have hq : ((v : Int) / 2 ^ (8 * m) != 0) = true := by simpa using wshift_more hf
  have hq2 : ((v : Int) / 2 ^ (8 * m) == 0) = false := by simpa using wshift_more hf
  clear hf
  go_enter Tryz.func95, Tryz.ntmps95
  go_wp2_with (first
    | (go_at_call 119; refine (wready_ok p bs _ h).mono ?_; rintro e w' ⟨rfl, rfl⟩)
    | (go_at_call 120; refine (isWidth_yes _ _ (by omega)).mono ?_; rintro e w' ⟨rfl, rfl⟩)
    | (go_at_call 121; refine (wfail_any p bs 0 1 _ h).mono ?_; rintro e w' ⟨rfl, h'⟩))
  go_ret
  exact ⟨rfl, h'⟩
theorem wnum_fits (p : Nat) (bs : List UInt8) (v m : Nat) (w : World) (h : Wr w p bs 0) (h1 : 1 ≤ m) (h8 : m ≤ 8) (hv : (v : Int) < 18446744073709551616) (hl : bs.length ≤ 70368744177600) (hf : v < 256 ^ m) :
    Calls Tryz.prog 95 #[.pointer (some ⟨p, 0, none⟩), .int .u64 v, .int .i64 m] w (Wrote w p (bs ++ leb m v, 0)) := by
  have hq := wshift_zero hf
  clear hf
  go_enter Tryz.func95, Tryz.ntmps95
  go_wp2_with (first
    | (go_at_call 119; refine (wready_ok p bs _ h).mono ?_; rintro e w' ⟨rfl, rfl⟩)
    | (go_at_call 120; refine (isWidth_yes _ _ (by omega)).mono ?_; rintro e w' ⟨rfl, rfl⟩)
    | (go_at_call 123; refine (lay_any v m _ (by omega) hv).mono ?_; rintro e w1 ⟨rfl, hb⟩; have h' := h.below hb)
    | (go_at_call 122; refine (wput_any p bs (str (leb m v)) _ h' (by rw [str_size, leb_length]; omega)).mono ?_; rintro e w2 ⟨rfl, hw⟩))
  go_ret
  rw [str_list] at hw
  exact ⟨rfl, hw.1, (Only.of_below p hb).trans hw.2⟩
theorem wnum_any (p : Nat) (bs : List UInt8) (e : Int) (v : Nat) (n : Int) (w : World) (h : Wr w p bs e) (hv : (v : Int) < 18446744073709551616) (hl : bs.length ≤ 70368744177600) :
    Calls Tryz.prog 95 #[.pointer (some ⟨p, 0, none⟩), .int .u64 v, .int .i64 n] w (Wrote w p (wnum v n bs e)) := by
  by_cases he : e = 0
  · subst he
    by_cases hn : 1 ≤ n ∧ n ≤ 8
    · obtain ⟨m, rfl⟩ := Int.eq_ofNat_of_zero_le (show 0 ≤ n by omega)
      by_cases hf : v < 256 ^ m
      · rw [show wnum v m bs 0 = (bs ++ leb m v, 0) by simp [wnum, hn, hf]]
        exact wnum_fits p bs v m w h (by omega) (by omega) hv hl hf
      · rw [show wnum v m bs 0 = ([], 1) by simp [wnum, hf]]
        refine wnum_more p bs v m w h (by omega) ?_ hf
        by_cases h8 : m < 8
        · exact h8
        · obtain rfl : m = 8 := by omega
          exact absurd (show v < 256 ^ 8 by omega) hf
    · rw [show wnum v n bs 0 = ([], 1) by simp [wnum, hn]]
      exact wnum_width p bs v n w h hn
  · rw [show wnum v n bs e = (bs, e) by simp [wnum, he]]
    exact wnum_bad p bs e v n w h he

theorem wrap_u64_nat (v : Int) : IntKind.u64.wrap v = ((v % 18446744073709551616).toNat : Int) := by
  rw [IntKind.wrap_u64]; omega
/-- An int as a number without a sign. -/
def unsig (v : Int) : Nat := (v % 18446744073709551616).toNat
theorem unsig_lt (v : Int) : (unsig v : Int) < 18446744073709551616 := by unfold unsig; omega
theorem wrepeat_zero : ∀ n, Lib.repeatL [(0 : UInt8)] n = List.replicate n 0
  | 0 => rfl
  | n + 1 => by rw [Lib.repeatL, wrepeat_zero n, List.replicate_succ]; rfl
theorem repeat_any (n : Int) (w : World) (h0 : 0 ≤ n) (h1 : n ≤ 60000) : Calls Tryz.prog 100 #[.string { data := #[0] }, .int .i64 n] w fun e w' => e = .returned (.string (str (List.replicate n.toNat 0))) ∧ Below w.heap.size w w' := by
  obtain ⟨k, rfl⟩ := Int.eq_ofNat_of_zero_le h0
  refine (Tryz.strings_Repeat { data := #[0] } k w (by omega) (by show 1 * k ≤ _; omega)).mono fun e w' ⟨he, hw⟩ => ⟨?_, hw⟩
  rw [he, show ({ data := #[0] } : ByteArray).data.toList = [0] from rfl, wrepeat_zero]
  rfl
end Go.Proofs.YtlaclbcckadmkaaGreat
namespace Go.Proofs.YtlaclbcckadmkaaGreat
open Go Go.RowKit
set_option maxRecDepth 100000
theorem wbytes_nil (w : World) : Calls Tryz.prog 96 #[.pointer none] w fun e w' => e = .returned (.tuple #[.string (str []), .int .i64 1]) ∧ w = w' := by
  go_enter Tryz.func96, Tryz.ntmps96
  go_wp2
  go_ret2
  exact ⟨rfl, rfl⟩
theorem wbytes_bad (p : Nat) (bs : List UInt8) (e : Int) (w : World) (h : Wr w p bs e) (he : e ≠ 0) :
    Calls Tryz.prog 96 #[.pointer (some ⟨p, 0, none⟩)] w fun r w' => r = .returned (.tuple #[.string (str []), .int .i64 e]) ∧ Below w.heap.size w w' := by
  obtain ⟨v, ts, hs, _⟩ := h
  have c2 := hs.cell 2
  have hb : (e != 0) = true := by simpa using he
  clear he hs
  go_enter Tryz.func96, Tryz.ntmps96
  go_wp2
  go_region
  all_goals
    go_wp2
    go_ret2
    exact ⟨rfl, (Below.refl _ _).drew⟩

/-- How many bytes a chain has. -/
def cl (ts : List (List UInt8)) : Nat := ts.reverse.flatten.length
theorem cl_cons (t : List UInt8) (ts : List (List UInt8)) : cl (t :: ts) = cl ts + t.length := by simp [cl]

theorem wbytes_ok (p : Nat) (bs : List UInt8) (w : World) (h : Wr w p bs 0) (hl : bs.length ≤ 35184372088832) :
    Calls Tryz.prog 96 #[.pointer (some ⟨p, 0, none⟩)] w fun r w' => r = .returned (.tuple #[.string (str bs), .int .i64 0]) ∧ Below w.heap.size w w' := by
  obtain ⟨v, ts, hs, hc, hf, _⟩ := h
  have c0 := hs.cell 0
  have c1 := hs.cell 1
  have c2 := hs.cell 2
  obtain ⟨i0, hi, hz0, hz1, hz2⟩ := info_parts Tryz.info5
  have hmk := run_make (P := Tryz.prog) w 87 5 i0 _ Tryz.underlying87 hi hz0 .i64 .i64 bs.length bs.length (by omega) (by omega) (by rw [hz2]; omega) (by omega)
  have hp := hs.lt
  go_enter Tryz.func96, Tryz.ntmps96
  go_wp2
  clear hmk
  go_loopg [5, 6] ts.length (fun k e c wr => ∃ q ts', ts'.length = k ∧ e = .int .i64 (cl ts') ∧ c = .pointer q ∧ Chain w q ts' ∧ ts'.reverse.flatten ++ bs.drop (cl ts') = bs ∧ Sits wr w.heap.size 5 (byteCells (List.replicate (cl ts') 0 ++ bs.drop (cl ts'))) ∧ Below w.heap.size w wr)
  case atStart =>
    refine ⟨v, ts, rfl, ?_, rfl, hc, ?_, ?_, (Below.refl _ _).alloc (Nat.le_refl _) _⟩
    · rw [cl, hf]
    · rw [cl, hf]; simp
    · rw [cl, hf, byteCells_made]
      simpa using Sits.fresh w 5 (byteCells (List.replicate bs.length 0))
  case round =>
    obtain ⟨q, ts', hk, rfl, rfl, hch, hall, hrow, hb⟩ := hrel
    match ts', hch, hk with
    | [], hch, hk =>
      have hq : q = none := hch
      subst hq
      have hall' : bs = bs.drop (cl []) := by simpa using hall.symm
      have hcv := run_text_of_row (P := Tryz.prog) wr 87 9 5 5 w.heap.size bs.length bs.length bs Tryz.underlying87 Tryz.underlying5 Tryz.underlying9 (by
        have := hrow
        rw [← hall'] at this
        simpa [cl] using this) rfl
      have HA := Lib.hid hall
      have HB := Lib.hid hall'
      clear hall hall' hf
      go_wp2
      go_ret2
      exact ⟨rfl, hb⟩
    | t :: ts', hch, hk =>
      obtain ⟨hne, b, q2, rfl, hsb, hch⟩ := hch
      have hsb' := hsb.below' hb
      have p0 := hsb'.cell 0
      have p1 := hsb'.cell 1
      have hlen : cl (t :: ts') ≤ bs.length := by
        have := congrArg List.length hall
        rw [List.length_append] at this
        have e : (t :: ts').reverse.flatten.length = cl (t :: ts') := rfl
        omega
      have hcc := cl_cons t ts'
      have htl : 1 ≤ t.length := by cases t with | nil => exact absurd rfl hne | cons x t => simp
      have hts : (str t).size = t.length := str_size t
      have hcp := run_copy_text (P := Tryz.prog) wr.drew 87 9 3 5 w.heap.size (cl ts') (bs.length - cl ts') (bs.length - cl ts') (List.replicate (cl (t :: ts')) 0 ++ bs.drop (cl (t :: ts'))) 5 (str t) Tryz.underlying87 (by rw [hi]; simp [hz1]) hrow.drew (by omega) (by simp; omega)
      have hsum : cl (t :: ts') = cl ts' + (str t).size := by omega
      rw [hsum] at hlen hcp
      rw [hsum]
      have hR : (List.replicate (cl ts' + (str t).size) 0 ++ bs.drop (cl ts' + (str t).size)).take (cl ts') ++ (str t).data.toList ++ (List.replicate (cl ts' + (str t).size) 0 ++ bs.drop (cl ts' + (str t).size)).drop (cl ts' + (str t).size) = List.replicate (cl ts') 0 ++ (t ++ bs.drop (cl ts' + (str t).size)) := by
        rw [List.take_append_of_le_length (by simp), List.take_replicate, Nat.min_eq_left (by omega), List.drop_append_of_le_length (by simp), str_list]
        simp
      have hall2 : bs.drop (cl ts') = t ++ bs.drop (cl ts' + (str t).size) := by
        have e : ts'.reverse.flatten ++ (t ++ bs.drop (cl ts' + (str t).size)) = bs := by
          rw [← List.append_assoc, ← hsum]
          simpa using hall
        have e2 := congrArg (List.drop (cl ts')) e
        rw [List.drop_append_of_le_length (by rw [cl]; omega), cl, List.drop_length, List.nil_append] at e2
        exact e2.symm
      have hall3 : ts'.reverse.flatten ++ bs.drop (cl ts') = bs := by
        rw [hall2, ← List.append_assoc, ← hsum]
        simpa using hall
      rw [hR, ← hall2] at hcp
      have hnx : ∀ cs, (wr.drew.setRow w.heap.size cs).cell? ⟨b, 0, none⟩ = some (.pointer q2) := fun cs => by
        have : (wr.drew.setRow w.heap.size cs).heap[b]? = wr.heap[b]? := by
          have hlb := hsb.lt
          simp only [World.setRow, Array.getElem?_modify]
          rw [if_neg (by omega)]
          rfl
        exact (World.cell?_of_block (w := wr) (a := ⟨b, 0, none⟩) this).trans p0
      have hrow2 := hrow.drew.row (cs' := byteCells (List.replicate (cl ts') 0 ++ bs.drop (cl ts')))
      have HA := Lib.hid hall3
      have HC := Lib.hid hsum
      have HT := Lib.hid hts
      have hm1 : 1 ≤ (str t).size := by omega
      have hlt : cl ts' < bs.length := by omega
      clear hall hcc hf hts hsum htl hR hall2 hall3 hrow hc
      go_wp2
      go_region
      all_goals
        go_wp2
        go_roundg ts'.length
        case measure => rw [← hk]; simp
        case rel => exact ⟨q2, ts', rfl, rfl, rfl, hch, HA.out, hrow2, Below.row hb.drew (Nat.le_refl _) _⟩
end Go.Proofs.YtlaclbcckadmkaaGreat
