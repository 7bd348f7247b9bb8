/- Package tick: a timer in memory, and what its calls answer and leave. -/
import Derived.Test.YtbgogbelnipfdaaNum
import Derived.Test.YtbgogbelnipfdaaHold
import Derived.StillTailTactics
namespace Go.Proofs.Ytbgogbelnipfdaa
open Go Go.RowKit
set_option maxRecDepth 100000
set_option maxHeartbeats 1000000
set_option linter.unusedSimpArgs false

/-- At g stands a timer. -/
structure TM (g : Nat) (a : Int) (s : Bool) (S : Nat → Prop) (w : World) : Prop where
  sits : Sits w g 39 #[.int .i64 a, .bool s]
  g : S g
theorem holdTM (g : Nat) (a : Int) (s : Bool) : Hold (TM g a s) where
  keep := fun ⟨h, hg⟩ hk => ⟨(hk g hg h.lt).trans h, hg⟩
  mono := fun ⟨h, hg⟩ hs => ⟨h, hs _ hg⟩
  less := fun ⟨h, hg⟩ => ⟨h, hg, h.lt⟩
theorem tm_new (w : World) : Has (TM w.heap.size 0 false) w (w.alloc (.cells #[.int .i64 0, .bool false] 39)) :=
  ⟨⟨Sits.fresh w _ _, Nat.le_refl _⟩, (Below.refl _ w).alloc (Nat.le_refl _) _⟩
/-- How long it waits. -/
def leftF (a : Int) (s : Bool) (n : Int) : Int := if s = false then -1 else if a ≤ n then 0 else min (a - n) 9223372036854775807
def dueF (a : Int) (s : Bool) (n : Int) : Bool := s && decide (a ≤ n)
theorem wrap_left {a n : Int} (ha : -9223372036854775808 ≤ a ∧ a ≤ 9223372036854775807) (hn : -9223372036854775808 ≤ n ∧ n ≤ 9223372036854775807) (h : n < a) :
    (a - n ≤ 9223372036854775807 ∧ IntKind.i64.wrap (a - n) = a - n) ∨ (9223372036854775807 < a - n ∧ IntKind.i64.wrap (a - n) < 0) := by
  by_cases h1 : a - n ≤ 9223372036854775807
  · exact .inl ⟨h1, IntWalk.i64_in _ (by omega)⟩
  · refine .inr ⟨by omega, ?_⟩
    have : IntKind.i64.wrap (a - n) = a - n - 18446744073709551616 := by
      simp only [IntKind.wrap, IntKind.bits, IntKind.signed]
      simp
      omega
    omega
section
variable {g : Nat} {a : Int} {s : Bool} {S : Nat → Prop} {w w' : World}
theorem tleft_any (h : TM g a s S w) (n : Int) (ha : -9223372036854775808 ≤ a ∧ a ≤ 9223372036854775807) (hn : -9223372036854775808 ≤ n ∧ n ≤ 9223372036854775807) :
    Calls Try.prog 19 #[.pointer (some ⟨g, 0, none⟩), .int .i64 n] w fun e w' => e = .returned (.int .i64 (leftF a s n)) ∧ w = w' := by
  have c0 := h.sits.cell 0
  have c1 := h.sits.cell 1
  clear h
  unfold leftF
  cases s with
  | false =>
    rw [if_pos rfl]
    go_enter Try.func19, Try.ntmps19
    go_wp2
    go_ret
    exact ⟨rfl, rfl⟩
  | true =>
    rw [if_neg (by simp)]
    by_cases h1 : a ≤ n
    · rw [if_pos h1]
      have d1 : decide (a ≤ n) = true := decide_eq_true h1
      go_enter Try.func19, Try.ntmps19
      go_wp2
      go_ret
      exact ⟨rfl, rfl⟩
    · rw [if_neg h1]
      have d1 : decide (a ≤ n) = false := decide_eq_false h1
      rcases wrap_left ha hn (by omega) with ⟨h2, h3⟩ | ⟨h2, h3⟩
      · rw [Int.min_eq_left h2]
        have d2 : decide (a - n < 0) = false := decide_eq_false (by omega)
        obtain ⟨d, hd⟩ : ∃ d, d = a - n := ⟨_, rfl⟩
        rw [← hd] at d2 ⊢
        have h4 : IntKind.i64.wrap (a - n) = d := h3.trans hd.symm
        clear hd h1 h2 h3
        go_enter Try.func19, Try.ntmps19
        go_wp2
        go_ret
        exact ⟨rfl, rfl⟩
      · rw [Int.min_eq_right (by omega)]
        obtain ⟨d, hd⟩ : ∃ d, d = IntKind.i64.wrap (a - n) := ⟨_, rfl⟩
        have h4 := hd.symm
        rw [h4] at h3
        have d2 : decide (d < 0) = true := decide_eq_true h3
        clear hd h1 h2
        go_enter Try.func19, Try.ntmps19
        go_wp2
        go_ret
        exact ⟨rfl, rfl⟩
theorem tleft_nil (n : Int) : Calls Try.prog 19 #[.pointer none, .int .i64 n] w fun e w' => e = .returned (.int .i64 (-1)) ∧ w = w' := by
  go_enter Try.func19, Try.ntmps19
  go_wp2
  go_ret
  exact ⟨rfl, rfl⟩
theorem tset_turns (n : Int) : Turns (TM g a s) (TM g n true) 16 #[.pointer (some ⟨g, 0, none⟩), .int .i64 n] (.returned (.tuple #[])) := by
  rintro S w hS ⟨h, hg⟩
  have c0 := h.cell 0
  have c1 := h.cell 1
  have f0 := h.warm 0
  have f1 := h.warm 1
  have hx := (h.put 0 (.int .i64 n)).put 1 (.bool true)
  have hm := ((Many.refl S w).store hg 0 (.int .i64 n)).store hg 1 (.bool true)
  have HX : Hid (TM g n true S ((w.setCell ⟨g, 0, none⟩ (.int .i64 n)).setCell ⟨g, 1, none⟩ (.bool true)) ∧ Many S w ((w.setCell ⟨g, 0, none⟩ (.int .i64 n)).setCell ⟨g, 1, none⟩ (.bool true))) := Lib.hid ⟨⟨hx, hg⟩, hm⟩
  have hlt := h.lt
  clear h hx hm hS hg
  go_enter Try.func16, Try.ntmps16
  go_wp2
  go_returns
  exact ⟨rfl, HX.out⟩
theorem tset_nil (n : Int) : Calls Try.prog 16 #[.pointer none, .int .i64 n] w fun e w' => e = .returned (.tuple #[]) ∧ w = w' := by
  go_enter Try.func16, Try.ntmps16
  go_wp2
  go_returns
  exact ⟨rfl, rfl⟩
theorem tstop_turns : Turns (TM g a s) (TM g 0 false) 18 #[.pointer (some ⟨g, 0, none⟩)] (.returned (.tuple #[])) := by
  rintro S w hS ⟨h, hg⟩
  have c0 := h.cell 0
  have c1 := h.cell 1
  have f0 := h.warm 0
  have f1 := h.warm 1
  have hx := (h.put 0 (.int .i64 0)).put 1 (.bool false)
  have hm := ((Many.refl S w).store hg 0 (.int .i64 0)).store hg 1 (.bool false)
  have HX : Hid (TM g 0 false S ((w.setCell ⟨g, 0, none⟩ (.int .i64 0)).setCell ⟨g, 1, none⟩ (.bool false)) ∧ Many S w ((w.setCell ⟨g, 0, none⟩ (.int .i64 0)).setCell ⟨g, 1, none⟩ (.bool false))) := Lib.hid ⟨⟨hx, hg⟩, hm⟩
  have hlt := h.lt
  clear h hx hm hS hg
  go_enter Try.func18, Try.ntmps18
  go_wp2
  go_returns
  exact ⟨rfl, HX.out⟩
theorem tstop_nil : Calls Try.prog 18 #[.pointer none] w fun e w' => e = .returned (.tuple #[]) ∧ w = w' := by
  go_enter Try.func18, Try.ntmps18
  go_wp2
  go_returns
  exact ⟨rfl, rfl⟩
theorem tdue_nil (n : Int) : Calls Try.prog 17 #[.pointer none, .int .i64 n] w fun e w' => e = .returned (.bool false) ∧ w = w' := by
  go_enter Try.func17, Try.ntmps17
  go_wp2_with fail
  refine (tleft_nil n).mono ?_
  rintro e w' ⟨rfl, rfl⟩
  go_wp2
  go_ret
  exact ⟨rfl, rfl⟩
theorem tdue_yes (n : Int) (ha : -9223372036854775808 ≤ a ∧ a ≤ 9223372036854775807) (hn : -9223372036854775808 ≤ n ∧ n ≤ 9223372036854775807) (h1 : a ≤ n) :
    Turns (TM g a true) (TM g 0 false) 17 #[.pointer (some ⟨g, 0, none⟩), .int .i64 n] (.returned (.bool true)) := by
  intro S w hS h
  have HL := tleft_any h n ha hn
  rw [show leftF a true n = 0 by simp [leftF, h1]] at HL
  have HL := Lib.hid HL
  have HS := Lib.hid (tstop_turns S w hS h)
  clear h hS ha hn h1
  go_enter Try.func17, Try.ntmps17
  go_wp2_with fail
  refine HL.out.mono ?_
  rintro e w' ⟨rfl, rfl⟩
  go_wp2_with fail
  refine HS.out.mono ?_
  rintro e w2 ⟨rfl, h2⟩
  have H2 := Lib.hid h2
  clear h2
  go_wp2
  go_ret
  exact ⟨rfl, H2.out⟩
theorem tdue_no (n : Int) (ha : -9223372036854775808 ≤ a ∧ a ≤ 9223372036854775807) (hn : -9223372036854775808 ≤ n ∧ n ≤ 9223372036854775807) (h : TM g a s S w) (h1 : dueF a s n = false) :
    Calls Try.prog 17 #[.pointer (some ⟨g, 0, none⟩), .int .i64 n] w fun e w' => e = .returned (.bool false) ∧ w = w' := by
  have HL := tleft_any h n ha hn
  obtain ⟨d, hd⟩ : ∃ d, d = leftF a s n := ⟨_, rfl⟩
  rw [← hd] at HL
  have hne : d ≠ 0 := by
    rw [hd]
    unfold leftF
    unfold dueF at h1
    cases s with
    | false => simp
    | true =>
      simp only [Bool.true_and, decide_eq_false_iff_not] at h1
      rw [if_neg (by simp), if_neg h1]
      omega
  have d1 : (d != 0) = true := by simp [hne]
  have HL := Lib.hid HL
  clear h ha hn h1 hd hne
  go_enter Try.func17, Try.ntmps17
  go_wp2_with fail
  refine HL.out.mono ?_
  rintro e w' ⟨rfl, rfl⟩
  go_wp2
  go_ret
  exact ⟨rfl, rfl⟩
end
end Go.Proofs.Ytbgogbelnipfdaa
