/- commonsbook's lists of Ints: their marks, held against one another, still, copied. -/
import Derived.Test.YtehnobcjoaclcaaGreatGE
import Derived.Test.YtehnobcjoaclcaaGreatBk
import Derived.Test.YtehnobcjoaclcaaGreatGB
import Derived.BigQuiet
import Derived.Lib.AppendZeros
namespace Go.Proofs.YtehnobcjoaclcaaGreat
open Go Go.RowKit
set_option maxRecDepth 100000
set_option maxHeartbeats 1000000
set_option linter.unusedSimpArgs false

def encZ (x : Int) : List Value := [.int .i64 x]
theorem vals_len1 (l : List Int) : (vals l).length = l.length * 1 := by rw [vals_length, Nat.mul_one]
theorem vals_at (l : List Int) (i j : Nat) (h : i < l.length) (hj : j < 1) : (vals l)[i * 1 + j]? = (encZ l[i])[j]? := by
  obtain rfl : j = 0 := by omega
  simp [vals, encZ, h]
theorem ints_read {w : World} {v : Value} {l : List Int} (h : Ints w v l) : ∃ A cap, v = .slice A l.length cap ∧ l.length ≤ cap ∧ (cap : Int) ≤ 9223372036854775807 ∧
    ∀ i (hi : i < l.length), ∃ b o, A = some ⟨b, o, none⟩ ∧ b < w.heap.size ∧ w.cell? ⟨b, o + i, none⟩ = some (.int .i64 l[i]) := h.one_
theorem pushZ_one {w : World} {base : Nat} {v : Value} {l : List Int} (h : IRow w base v l) (y : Int) (hb : base ≤ w.heap.size) (hl : l.length ≤ 10000000) (ty : TypeId) :
    ∃ A c w', (Builtin.append_ #[55, 55] ty #[v, .slice (some ⟨w.heap.size, 0, none⟩) 1 1]).run Tryz.prog (w.alloc (.cells #[.int .i64 y] 3)) = .ok (.slice A (l.length + 1 : Nat) c) w' ∧ IRow w' base (.slice A (l.length + 1 : Nat) c) (l ++ [y]) ∧ Below base w w' := by
  have hmx : maxLen = 9223372036854775807 := by decide
  have h1 := RowAt.below h ((Below.refl _ _).alloc (Nat.le_refl _) (.cells #[Value.int .i64 y] 3))
  have hsrc : Src Tryz.prog 1 55 (.slice (some ⟨_, 0, none⟩) 1 1) 1 [Value.int .i64 y] _ := Sits.src (l := [y]) (Sits.fresh w 3 #[Value.int .i64 y])
  obtain ⟨v3, w3, hr3, hX3, gr3, _⟩ := appendAt_src elem_int h1 hsrc ty (by rw [hmx]; omega) (by omega) (by rw [World.size_alloc]; omega)
  obtain ⟨A, c, rfl, -, -, -, -⟩ := hX3.form
  refine ⟨A, c, w3, hr3, ?_, ((Below.refl _ _).alloc hb (.cells #[Value.int .i64 y] 3)).grown gr3 (by rw [World.size_alloc]; omega) (fun k hk => (h1.lt k hk).1)⟩
  show RowAt _ _ _ _ _ (l ++ [y]).length (vals (l ++ [y]))
  rw [show (l ++ [y]).length = l.length + 1 by simp, vals_append]
  exact hX3
def markInts (i k : Nat) : Int := -1000000 * (i : Int) - (k : Int) - 7
theorem eqInts_yes (u v : Value) (l : List Int) (w : World) (hu : Ints w u l) (hv : Ints w v l) :
    Calls Tryz.prog 106 #[u, v] w fun e w' => e = .returned (.bool true) ∧ ∃ n, w' = w.drewN n := sameInts_yes u v l w hu hv
def marksInts (i a n : Nat) : List Int := (List.range' a n).map fun k => markInts i k
theorem marksInts_length (i a n : Nat) : (marksInts i a n).length = n := by simp [marksInts]
theorem marksInts_add (i a n : Nat) : marksInts i a n ++ [markInts i (a + n)] = marksInts i a (n + 1) := by
  rw [marksInts, marksInts, List.range'_concat, List.map_append]
  simp
theorem marksInts_append (i a n m : Nat) : marksInts i a n ++ marksInts i (a + n) m = marksInts i a (n + m) := by
  rw [marksInts, marksInts, marksInts, ← List.map_append, List.range'_append_1]
theorem markInts_any (i a n : Nat) (w : World) (hi : i ≤ 1000) (ha : a ≤ 1000000) (hn : n ≤ 1000000) :
    Calls Tryz.prog 123 #[.int .i64 i, .int .i64 a, .int .i64 n] w fun e w' => ∃ u, e = .returned u ∧ IRow w' w.heap.size u (marksInts i a n) ∧ Below w.heap.size w w' := by
  have hi' : (i : Int) ≤ 1000 := by omega
  have ha' : (a : Int) ≤ 1000000 := by omega
  have hn' : (n : Int) ≤ 1000000 := by omega
  go_enter Tryz.func123, Tryz.ntmps123
  go_wp2
  go_loopw [8, 7] (fun k x wr => ∃ j : Nat, j ≤ n ∧ k = .int .i64 ((a + j : Nat) : Int) ∧ Hid (IRow wr w.heap.size x (marksInts i a j) ∧ Below w.heap.size w wr)) (fun k _ _ => (a + n) - (intOf k).toNat)
  case atStart => exact ⟨0, by omega, rfl, Lib.hid ⟨RowAt.nil _ _ _ _, Below.refl _ _⟩⟩
  case round =>
    obtain ⟨j, hj, rfl, hI⟩ := hrel
    obtain ⟨q, hq⟩ : ∃ q : Nat, q = a + j := ⟨_, rfl⟩
    rw [← hq]
    have hq' : (q : Int) ≤ 2000000 := by omega
    by_cases hlt : j < n
    · have dlt : (q : Int) < (a : Int) + (n : Int) := by omega
      have hadd := marksInts_add i a j
      rw [← hq] at hadd
      obtain ⟨y, hy⟩ : ∃ y : Int, y = -1000000 * (i : Int) - (q : Int) - 7 := ⟨_, rfl⟩
      have wy : wrap64 (-1000000 * (i : Int) - (q : Int) - 7) = y := by rw [hy]; exact IntWalk.wrap64_in _ (by omega)
      have hm : markInts i q = y := by rw [hy]; rfl
      have hy1 : -1000000 * (i : Int) - (q : Int) - 7 = y := hy.symm
      obtain ⟨A8, c8, w8, hr8, hX8, hB8⟩ := pushZ_one hI.out.1 y hI.out.2.size (by rw [marksInts_length]; omega) 55
      rw [hm] at hadd
      have HS : Hid (IRow w8 w.heap.size (.slice A8 ((marksInts i a j).length + 1 : Nat) c8) (marksInts i a (j + 1)) ∧ Below w.heap.size w w8) := Lib.hid ⟨hadd ▸ hX8, hI.out.2.trans hB8⟩
      have HQ := Lib.hid hq
      clear hX8 hB8 hadd hq hm hy
      go_wp2_with (at_builtin; refine Lib.wpList_append_run _ rfl _ _ _ _ rfl _ _ rfl rfl _ _ hr8 ?_)
      go_roundw
      case rel => exact ⟨j + 1, by omega, by have := HQ.out; go_num, HS⟩
      case measure => have := HQ.out; simp [intOf]; omega
    · have hjn : j = n := by omega
      subst hjn
      have dlt : ¬ ((q : Int) < (a : Int) + (j : Int)) := by omega
      clear hq
      go_wp2
      go_ret
      exact ⟨_, rfl, hI.out.1, hI.out.2⟩
theorem cpyInts_any (u : Value) (l : List Int) (w : World) (h : Ints w u l) (hl : l.length ≤ 1000000) :
    Calls Tryz.prog 40 #[u] w fun e w' => ∃ x, e = .returned x ∧ IRow w' w.heap.size x l ∧ Below w.heap.size w w' := by
  have hmx : maxLen = 9223372036854775807 := by decide
  obtain ⟨x, w2, hr, hX, gr, _⟩ := appendAt_src elem_int (RowAt.nil w w.heap.size _ _) (Ints.src h) 55 (by rw [hmx]; omega) (by omega) (Nat.le_refl _)
  have HX : Hid (IRow w2 w.heap.size x l ∧ Below w.heap.size w w2) := Lib.hid ⟨by
    rw [Nat.zero_add, List.nil_append] at hX
    exact hX, (Below.refl _ w).grown gr (Nat.le_refl _) (fun k hk => by simp [Value.ownBlock] at hk)⟩
  obtain ⟨A, ca, rfl, -, -, -⟩ := ints_read h
  clear h hX gr
  go_enter Tryz.func40, Tryz.ntmps40
  go_wp2_with (at_builtin; refine Lib.wpList_append_run _ rfl _ _ _ _ rfl _ _ rfl rfl _ _ hr ?_)
  go_ret
  exact ⟨x, rfl, HX.out.1, HX.out.2⟩
end Go.Proofs.YtehnobcjoaclcaaGreat
