/- commonsbook's lists of Spans: their marks, held against one another, still, copied. -/
import Derived.Test.YtehnobcjoaclcaaGreatSpanR
import Derived.Test.YtehnobcjoaclcaaGreatBk
import Derived.Test.YtehnobcjoaclcaaGreatGB
import Derived.BigQuiet
import Derived.Lib.AppendZeros
namespace Go.Proofs.YtehnobcjoaclcaaGreat
open Go Go.RowKit
open SpanP
set_option maxRecDepth 100000
set_option maxHeartbeats 1000000
set_option linter.unusedSimpArgs false

def markSpans (i k : Nat) : S := (-1 - (i : Int), (k : Int))
def marksSpans (i a n : Nat) : List S := (List.range' a n).map fun k => markSpans i k
theorem marksSpans_length (i a n : Nat) : (marksSpans i a n).length = n := by simp [marksSpans]
theorem marksSpans_add (i a n : Nat) : marksSpans i a n ++ [markSpans i (a + n)] = marksSpans i a (n + 1) := by
  rw [marksSpans, marksSpans, List.range'_concat, List.map_append]
  simp
theorem marksSpans_append (i a n m : Nat) : marksSpans i a n ++ marksSpans i (a + n) m = marksSpans i a (n + m) := by
  rw [marksSpans, marksSpans, marksSpans, ← List.map_append, List.range'_append_1]
theorem markSpans_any (i a n : Nat) (w : World) (hi : i ≤ 1000) (ha : a ≤ 1000000) (hn : n ≤ 1000000) :
    Calls Tryz.prog 125 #[.int .i64 i, .int .i64 a, .int .i64 n] w fun e w' => ∃ u, e = .returned u ∧ SRow w' w.heap.size u (marksSpans i a n) ∧ Below w.heap.size w w' := by
  have hi' : (i : Int) ≤ 1000 := by omega
  have ha' : (a : Int) ≤ 1000000 := by omega
  have hn' : (n : Int) ≤ 1000000 := by omega
  go_enter Tryz.func125, Tryz.ntmps125
  go_wp2
  go_loopw [8, 7] (fun k x wr => ∃ j : Nat, j ≤ n ∧ k = .int .i64 ((a + j : Nat) : Int) ∧ Hid (SRow wr w.heap.size x (marksSpans i a j) ∧ Below w.heap.size w wr)) (fun k _ _ => (a + n) - (intOf k).toNat)
  case atStart => exact ⟨0, by omega, rfl, Lib.hid ⟨RowAt.nil _ _ _ _, Below.refl _ _⟩⟩
  case round =>
    obtain ⟨j, hj, rfl, hI⟩ := hrel
    obtain ⟨q, hq⟩ : ∃ q : Nat, q = a + j := ⟨_, rfl⟩
    rw [← hq]
    have hq' : (q : Int) ≤ 2000000 := by omega
    by_cases hlt : j < n
    · have dlt : (q : Int) < (a : Int) + (n : Int) := by omega
      have hadd := marksSpans_add i a j
      rw [← hq] at hadd
      obtain ⟨y, hy⟩ : ∃ y : Int, y = -1 - (i : Int) := ⟨_, rfl⟩
      have wy : wrap64 (-1 - (i : Int)) = y := by rw [hy]; exact IntWalk.wrap64_in _ (by omega)
      have hm : markSpans i q = (y, (q : Int)) := by rw [hy]; rfl
      have hy1 : -1 - (i : Int) = y := hy.symm
      obtain ⟨A8, c8, w8, hr8, hX8, hB8, _, _, _⟩ := pushS_one hI.out.1 (y, (q : Int)) hI.out.2.size (by rw [marksSpans_length]; omega) 22
      simp only at hr8
      rw [hm] at hadd
      have HS : Hid (SRow w8 w.heap.size (.slice A8 ((marksSpans i a j).length + 1 : Nat) c8) (marksSpans i a (j + 1)) ∧ Below w.heap.size w w8) := Lib.hid ⟨hadd ▸ hX8, hI.out.2.trans hB8⟩
      have HQ := Lib.hid hq
      clear hX8 hB8 hadd hq hm hy
      go_wp2_with (at_builtin; refine Lib.wpList_append_run _ rfl _ _ _ _ rfl _ _ rfl rfl _ _ hr8 ?_)
      go_roundw
      case rel => exact ⟨j + 1, by omega, by have := HQ.out; go_num, HS⟩
      case measure => have := HQ.out; simp [intOf]; omega
    · have hjn : j = n := by omega
      subst hjn
      have dlt : ¬ ((q : Int) < (a : Int) + (j : Int)) := by omega
      clear hq
      go_wp2
      go_ret
      exact ⟨_, rfl, hI.out.1, hI.out.2⟩
theorem eqSpans_yes (u v : Value) (l : List S) (w : World) (hu : Spans w u l) (hv : Spans w v l) :
    Calls Tryz.prog 19 #[u, v] w fun e w' => e = .returned (.bool true) ∧ ∃ n, w' = w.drewN n := by
  obtain ⟨A, ca, rfl, ha1, ha2, ha3⟩ := Spans.read hu
  obtain ⟨B, cb, rfl, hb1, hb2, hb3⟩ := Spans.read hv
  have hlen : (l.length : Int) ≤ 9223372036854775807 := by omega
  have HA := Lib.hid ha3
  have HB := Lib.hid hb3
  clear ha3 hb3 hu hv
  go_enter Tryz.func19, Tryz.ntmps19
  go_wp2
  go_loopw [5] (fun i wr => ∃ k : Nat, k ≤ l.length ∧ i = .int .i64 k ∧ ∃ n, wr = w.drewN n) (fun i _ => l.length - (intOf i).toNat)
  case atStart => exact ⟨0, by omega, rfl, 0, rfl⟩
  case round =>
    obtain ⟨k, hk, rfl, n, rfl⟩ := hrel
    by_cases hlt : k < l.length
    · obtain ⟨b, o, rfl, _, hcb, hcc⟩ := HA.out k hlt
      obtain ⟨b', o', rfl, _, hcb', hcc'⟩ := HB.out k hlt
      generalize l[k].1 = p at hcb hcb'
      generalize l[k].2 = q at hcc hcc'
      go_wp2
      go_quiet (fail)
      go_wp2
      go_roundw
      case rel => exact ⟨k + 1, by omega, by go_num, _, rfl⟩
      case measure => simp [intOf]; omega
    · go_wp2
      go_ret
      exact ⟨rfl, n, rfl⟩
theorem cpySpans_any (u : Value) (l : List S) (w : World) (h : Spans w u l) (hl : l.length ≤ 1000000) :
    Calls Tryz.prog 36 #[u] w fun e w' => ∃ x, e = .returned x ∧ SRow w' w.heap.size x l ∧ Below w.heap.size w w' := by
  have hmx : maxLen = 9223372036854775807 := by decide
  obtain ⟨x, w2, hr, hX, gr, _⟩ := appendAt_src elemS (RowAt.nil w w.heap.size _ _) (Spans.src h) 22 (by rw [hmx]; omega) (by omega) (Nat.le_refl _)
  have HX : Hid (SRow w2 w.heap.size x l ∧ Below w.heap.size w w2) := Lib.hid ⟨by
    rw [Nat.zero_add, List.nil_append] at hX
    exact hX, (Below.refl _ w).grown gr (Nat.le_refl _) (fun k hk => by simp [Value.ownBlock] at hk)⟩
  obtain ⟨A, ca, rfl, -, -, -⟩ := Spans.read h
  clear h hX gr
  go_enter Tryz.func36, Tryz.ntmps36
  go_wp2_with (at_builtin; refine Lib.wpList_append_run _ rfl _ _ _ _ rfl _ _ rfl rfl _ _ hr ?_)
  go_ret
  exact ⟨x, rfl, HX.out.1, HX.out.2⟩
end Go.Proofs.YtehnobcjoaclcaaGreat
