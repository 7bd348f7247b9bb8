/- Package span: single spans: Valid, Len, Has, Meet, Meets, and how they are compared. -/
import Derived.Test.YtehnobcjoaclcaaGreatGA
import Derived.Test.YtehnobcjoaclcaaGreatGC
import Derived.Test.YtehnobcjoaclcaaGreatGB
import Derived.Test.YtehnobcjoaclcaaGreatGD
import Derived.Sort.Grow
import Derived.BigQuiet
import Derived.BigRegion
import Derived.StillTailTactics
namespace Go.Proofs.YtehnobcjoaclcaaGreat
open Go Go.RowKit SpanP
set_option maxRecDepth 100000
set_option maxHeartbeats 1000000
set_option linter.unusedSimpArgs false

def encS (s : S) : List Value := [.int .i64 s.1, .int .i64 s.2]
def aggS (s : S) : Value := .agg #[.int .i64 s.1, .int .i64 s.2]
theorem encS_len (s : S) : (encS s).length = 2 := rfl
/-- A slice of spans. -/
abbrev Spans := SliceAt 2 encS
theorem grown_below {w w' : World} (h : ∃ q os, w' = Sort.grow (w.drewN q) os) : Below w.heap.size w w' := by
  obtain ⟨q, os, rfl⟩ := h
  exact ⟨rfl, rfl, rfl, by simp [Sort.grow], fun k hk => by simp only [Sort.grow]; rw [Array.getElem?_append_left (by exact hk)]; rfl⟩
theorem grown_refl (w : World) : ∃ q os, w = Sort.grow (w.drewN q) os := ⟨0, #[], (Sort.grow_empty _).symm⟩
theorem grown_alloc {w w' : World} (h : ∃ q os, w' = Sort.grow (w.drewN q) os) (o : Obj) : ∃ q os, w'.alloc o = Sort.grow (w.drewN q) os := by
  obtain ⟨q, os, rfl⟩ := h
  exact ⟨q, os.push o, by rw [Sort.alloc_eq_grow, Sort.grow_grow, Array.append_singleton]⟩
theorem grown_drew {w w' : World} (h : ∃ q os, w' = Sort.grow (w.drewN q) os) (k : Nat) : ∃ q os, w'.drewN k = Sort.grow (w.drewN q) os := by
  obtain ⟨q, os, rfl⟩ := h
  exact ⟨q + k, os, by simp [Sort.grow, World.drewN, Nat.add_assoc]⟩
theorem grown_trans {a b c : World} (h : ∃ q os, b = Sort.grow (a.drewN q) os) (k : ∃ q os, c = Sort.grow (b.drewN q) os) : ∃ q os, c = Sort.grow (a.drewN q) os := by
  obtain ⟨q, os, rfl⟩ := h
  obtain ⟨q2, os2, rfl⟩ := k
  exact ⟨q + q2, os ++ os2, by simp [Sort.grow, World.drewN, Nat.add_assoc, Array.append_assoc]⟩

theorem valid_any (s : S) (w : World) : Calls Tryz.prog 6 #[aggS s] w fun e w' => e = .returned (.bool (decide (Ok s))) ∧ ∃ q os, w' = Sort.grow (w.drewN q) os := by
  obtain ⟨a, b⟩ := s
  unfold aggS
  simp only
  by_cases h1 : 0 ≤ a
  · have d1 : decide (0 ≤ a) = true := decide_eq_true h1
    have d2 : decide (a ≥ 0) = true := decide_eq_true h1
    rw [show decide (Ok (a, b)) = decide (a < b) by unfold Ok; simp [h1]]
    go_enter Tryz.func6, Tryz.ntmps6
    go_wp2
    go_ret
    exact ⟨rfl, grown_alloc (grown_refl w) _⟩
  · have d1 : decide (0 ≤ a) = false := decide_eq_false h1
    have d2 : decide (a ≥ 0) = false := decide_eq_false h1
    rw [show decide (Ok (a, b)) = false by unfold Ok; simp [h1]]
    go_enter Tryz.func6, Tryz.ntmps6
    go_wp2
    go_ret
    exact ⟨rfl, grown_alloc (grown_refl w) _⟩
/-- To less From; 0 of one that is not valid. -/
def lenS (s : S) : Int := if Ok s then s.2 - s.1 else 0
theorem len_any (s : S) (hs : s.2 ≤ top) (w : World) : Calls Tryz.prog 7 #[aggS s] w fun e w' => e = .returned (.int .i64 (lenS s)) ∧ ∃ q os, w' = Sort.grow (w.drewN q) os := by
  obtain ⟨a, b⟩ := s
  simp only at hs
  unfold aggS
  simp only
  have hc : ∀ W : World, Calls Tryz.prog 6 #[.agg #[.int .i64 a, .int .i64 b]] W fun e w' => e = .returned (.bool (decide (Ok (a, b)))) ∧ ∃ q os, w' = Sort.grow (W.drewN q) os := valid_any (a, b)
  by_cases h : Ok (a, b)
  · have hr : lenS (a, b) = b - a := by unfold lenS; rw [if_pos h]
    have d : decide (Ok (a, b)) = true := decide_eq_true h
    have e1 : IntKind.i64.wrap (b - a) = b - a := by unfold Ok top at *; simp only at *; rw [IntWalk.i64_in _ (by omega)]
    rw [d] at hc
    rw [hr]
    clear d h hs hr
    go_enter Tryz.func7, Tryz.ntmps7
    go_wp2_with fail
    refine (hc _).mono ?_
    rintro e w1 ⟨rfl, hg⟩
    have HS := Lib.hid ((Sits.fresh w 43 #[.int .i64 a, .int .i64 b]).below' (grown_below hg))
    have c0 := HS.out.cell 0
    have c1 := HS.out.cell 1
    simp at c0 c1
    have HG := Lib.hid (grown_trans (grown_alloc (grown_refl w) _) hg)
    clear hg hc
    go_wp2
    go_ret
    exact ⟨rfl, HG.out⟩
  · have hr : lenS (a, b) = 0 := by unfold lenS; rw [if_neg h]
    have d : decide (Ok (a, b)) = false := decide_eq_false h
    rw [d] at hc
    rw [hr]
    clear d h hs hr
    go_enter Tryz.func7, Tryz.ntmps7
    go_wp2_with fail
    refine (hc _).mono ?_
    rintro e w1 ⟨rfl, hg⟩
    have HG := Lib.hid (grown_trans (grown_alloc (grown_refl w) _) hg)
    clear hg hc
    go_wp2
    go_ret
    exact ⟨rfl, HG.out⟩
theorem has_any (s : S) (c : Int) (w : World) : Calls Tryz.prog 8 #[aggS s, .int .i64 c] w fun e w' => e = .returned (.bool (decide (Has s c))) ∧ ∃ q os, w' = Sort.grow (w.drewN q) os := by
  obtain ⟨a, b⟩ := s
  unfold aggS
  simp only
  have hc : ∀ W : World, Calls Tryz.prog 6 #[.agg #[.int .i64 a, .int .i64 b]] W fun e w' => e = .returned (.bool (decide (Ok (a, b)))) ∧ ∃ q os, w' = Sort.grow (W.drewN q) os := valid_any (a, b)
  by_cases h : Ok (a, b)
  · have d : decide (Ok (a, b)) = true := decide_eq_true h
    rw [d] at hc
    by_cases h2 : a ≤ c
    · have d2 : decide (a ≤ c) = true := decide_eq_true h2
      rw [show decide (Has (a, b) c) = decide (c < b) by unfold Has; simp [h, h2]]
      clear d h
      go_enter Tryz.func8, Tryz.ntmps8
      go_wp2_with fail
      refine (hc _).mono ?_
      rintro e w1 ⟨rfl, hg⟩
      have HS := Lib.hid ((Sits.fresh w 43 #[.int .i64 a, .int .i64 b]).below' (grown_below hg))
      have c0 := HS.out.cell 0
      have c1 := HS.out.cell 1
      simp at c0 c1
      have HG := Lib.hid (grown_trans (grown_alloc (grown_refl w) _) hg)
      clear hg hc
      go_wp2
      go_ret
      exact ⟨rfl, HG.out⟩
    · have d2 : decide (a ≤ c) = false := decide_eq_false h2
      rw [show decide (Has (a, b) c) = false by unfold Has; simp [h2]]
      clear d h
      go_enter Tryz.func8, Tryz.ntmps8
      go_wp2_with fail
      refine (hc _).mono ?_
      rintro e w1 ⟨rfl, hg⟩
      have HS := Lib.hid ((Sits.fresh w 43 #[.int .i64 a, .int .i64 b]).below' (grown_below hg))
      have c0 := HS.out.cell 0
      have c1 := HS.out.cell 1
      simp at c0 c1
      have HG := Lib.hid (grown_trans (grown_alloc (grown_refl w) _) hg)
      clear hg hc
      go_wp2
      go_ret
      exact ⟨rfl, HG.out⟩
  · have d : decide (Ok (a, b)) = false := decide_eq_false h
    rw [d] at hc
    rw [show decide (Has (a, b) c) = false by unfold Has; simp [h]]
    clear d h
    go_enter Tryz.func8, Tryz.ntmps8
    go_wp2_with fail
    refine (hc _).mono ?_
    rintro e w1 ⟨rfl, hg⟩
    have HG := Lib.hid (grown_trans (grown_alloc (grown_refl w) _) hg)
    clear hg hc
    go_wp2
    go_ret
    exact ⟨rfl, HG.out⟩
theorem byFrom_any (s t : S) (w : World) : Calls Tryz.prog 32 #[aggS s, aggS t] w fun e w' => e = .returned (.int .i64 (cmpInt s.1 t.1)) ∧ ∃ q os, w' = Sort.grow (w.drewN q) os := by
  obtain ⟨a, b⟩ := s
  obtain ⟨c, d⟩ := t
  unfold aggS
  simp only
  obtain ⟨r, hr⟩ : ∃ r, r = cmpInt a c := ⟨_, rfl⟩
  have hc : ∀ W : World, Calls Tryz.prog 103 #[.int .i64 a, .int .i64 c] W fun e w' => e = .returned (.int .i64 r) ∧ W = w' := by rw [hr]; exact compare_int a c
  rw [← hr]
  clear hr
  go_enter Tryz.func32, Tryz.ntmps32
  go_wp2_with fail
  refine (hc _).mono ?_
  rintro e w1 ⟨rfl, rfl⟩
  clear hc
  go_wp2
  go_ret
  exact ⟨rfl, grown_alloc (grown_alloc (grown_refl w) _) _⟩
end Go.Proofs.YtehnobcjoaclcaaGreat
