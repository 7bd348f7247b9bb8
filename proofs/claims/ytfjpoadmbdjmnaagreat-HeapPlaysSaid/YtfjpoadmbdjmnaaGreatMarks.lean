/- commonsbook's marks of ints: what markInts answers; stillInts of a book that keeps lists. -/
import Derived.Test.YtfjpoadmbdjmnaaGreatLentI
namespace Go.Proofs.YtfjpoadmbdjmnaaGreat
open Go Go.RowKit
set_option maxRecDepth 100000
set_option maxHeartbeats 1000000
set_option linter.unusedSimpArgs false

def marksI (i a n : Nat) : List Int := (List.range' a n).map fun k : Nat => -1000000 * (i : Int) - (k : Int) - 7
theorem marksI_length (i a n : Nat) : (marksI i a n).length = n := by simp [marksI]
theorem marksI_add (i a n : Nat) : marksI i a n ++ [-1000000 * (i : Int) - ((a + n : Nat) : Int) - 7] = marksI i a (n + 1) := by
  rw [marksI, marksI, List.range'_concat, List.map_append]
  simp
theorem marksI_append (i a n m : Nat) : marksI i a n ++ marksI i (a + n) m = marksI i a (n + m) := by
  rw [marksI, marksI, marksI, ← List.map_append, List.range'_append_1]
theorem markInts_any (i a n : Nat) (w : World) (hi : i ≤ 1000) (ha : a ≤ 1000000) (hn : n ≤ 1000000) :
    Calls Tryz.prog 111 #[.int .i64 i, .int .i64 a, .int .i64 n] w fun e w' => ∃ u, e = .returned u ∧ IRow w' w.heap.size u (marksI i a n) ∧ Below w.heap.size w w' := by
  have HM := Lib.hid (show maxLen = 9223372036854775807 by decide)
  have hi' : (i : Int) ≤ 1000 := by omega
  have ha' : (a : Int) ≤ 1000000 := by omega
  have hn' : (n : Int) ≤ 1000000 := by omega
  go_enter Tryz.func111, Tryz.ntmps111
  go_wp2
  go_loopw [8, 7] (fun k x wr => ∃ j : Nat, j ≤ n ∧ k = .int .i64 ((a + j : Nat) : Int) ∧ IRow wr w.heap.size x (marksI i a j) ∧ Below w.heap.size w wr) (fun k _ _ => (a + n) - (intOf k).toNat)
  case atStart => exact ⟨0, by omega, rfl, RowAt.nil _ _ _ _, Below.refl _ _⟩
  case round =>
    obtain ⟨j, hj, rfl, hI, hB⟩ := hrel
    obtain ⟨q, hq⟩ : ∃ q : Nat, q = a + j := ⟨_, rfl⟩
    rw [← hq]
    have hq' : (q : Int) ≤ 2000000 := by omega
    by_cases hlt : j < n
    · have dlt : (q : Int) < (a : Int) + (n : Int) := by omega
      obtain ⟨y, hy⟩ : ∃ y : Int, y = -1000000 * (i : Int) - (q : Int) - 7 := ⟨_, rfl⟩
      have hI1 := RowAt.below hI ((Below.refl _ _).alloc (Nat.le_refl _) (.cells #[Value.int .i64 y] 3))
      have hsrc : Src Tryz.prog 1 63 (.slice (some ⟨_, 0, none⟩) 1 1) 1 [Value.int .i64 y] _ := Sits.src (l := [y]) (Sits.fresh wr 3 #[Value.int .i64 y])
      obtain ⟨v3, w3, hr3, hX3, gr3, at3⟩ := appendAt_src elem_int hI1 hsrc 63 (by rw [HM.out, marksI_length]; omega) (by rw [marksI_length]; omega) (by have := hB.size; simp; omega)
      have hB3 := (hB.alloc hB.size (.cells #[Value.int .i64 y] 3)).grown gr3 (by have := hB.size; simp; omega) (fun k hk => (hI1.lt k hk).1)
      have hI3 : IRow w3 w.heap.size v3 (marksI i a (j + 1)) := by
        rw [← marksI_add i a j, ← hq, ← hy]
        have e1 : (marksI i a j ++ [y]).length = (marksI i a j).length + 1 := by simp
        show RowAt _ _ _ _ _ (marksI i a j ++ [y]).length (vals (marksI i a j ++ [y]))
        rw [e1, vals_append]
        exact hX3
      have HR := Lib.hid hr3
      have HS := Lib.hid (And.intro hI3 hB3)
      have HQ := Lib.hid hq
      have wy : wrap64 (-1000000 * (i : Int) - (q : Int) - 7) = y := by rw [hy]; unfold wrap64; omega
      have hy1 : -1000000 * (i : Int) - (q : Int) - 7 = y := hy.symm
      clear hr3 hI hI1 hsrc hX3 gr3 at3 hB hB3 hI3 hq hy
      go_wp2_with (at_builtin; refine wpList_append_eq rfl (.tmp 17) (.tmp 23) 63 63 rfl _ _ _ rfl rfl HR.out ?_)
      go_roundw
      case rel => exact ⟨j + 1, by omega, by have := HQ.out; go_num, HS.out.1, HS.out.2⟩
      case measure => have := HQ.out; simp [intOf]; omega
    · have hjn : j = n := by omega
      subst hjn
      have dlt : ¬ ((q : Int) < (a : Int) + (j : Int)) := by omega
      have HS := Lib.hid (And.intro hI hB)
      clear hI hB hq
      go_wp2
      go_ret
      exact ⟨_, rfl, HS.out.1, HS.out.2⟩
/-- A slice of values, whatever they are. -/
abbrev Vals := SliceAt 1 (fun v : Value => [v])
theorem sameq (u v : Value) (l : List Int) (w : World) (hu : Ints w u l) (hv : Ints w v l) (j : Nat) :
    Calls Tryz.prog 16 #[u, v] (w.drewN j) fun e w' => e = .returned (.bool true) ∧ ∃ n, w' = w.drewN n := by
  refine (sameInts_yes u v l (w.drewN j) (hu.keep (w' := w.drewN j) (Nat.le_refl _) (fun _ _ => rfl)) (hv.keep (w' := w.drewN j) (Nat.le_refl _) (fun _ _ => rfl))).mono ?_
  rintro e w' ⟨rfl, i, rfl⟩
  exact ⟨rfl, j + i, World.drewN_drewN w j i⟩
theorem sameq2 (u v : Value) (l : List Int) (w : World) (hu : Ints w u l) (hv : Ints w v l) (n j : Nat) :
    Calls Tryz.prog 16 #[u, v] (w.drewN (n + j)) fun e w' => e = .returned (.bool true) ∧ ∃ m, w' = w.drewN (n + m) := by
  refine (sameInts_yes u v l (w.drewN (n + j)) (hu.keep (w' := w.drewN (n + j)) (Nat.le_refl _) (fun _ _ => rfl)) (hv.keep (w' := w.drewN (n + j)) (Nat.le_refl _) (fun _ _ => rfl))).mono ?_
  rintro e w' ⟨rfl, i, rfl⟩
  exact ⟨rfl, j + i, by rw [World.drewN_drewN, Nat.add_assoc]⟩
theorem stillInts_yes (p : Nat) (us ts : List Value) (u t : Value) (w : World) (c2 : w.cell? ⟨p, 2, none⟩ = some u) (c3 : w.cell? ⟨p, 3, none⟩ = some t) (hu : Vals w u us) (ht : Vals w t ts)
    (hn : ts.length = us.length) (hl : ∀ (i : Nat) (x y : Value), us[i]? = some x → ts[i]? = some y → ∃ l, Ints w x l ∧ Ints w y l) :
    Calls Tryz.prog 28 #[.pointer (some ⟨p, 0, none⟩)] w fun e w' => e = .returned (.bool true) ∧ ∃ n, w' = w.drewN n := by
  obtain ⟨A, ca, rfl, ha1, ha2, ha3⟩ := SliceAt.one_ (f := fun v => v) hu
  obtain ⟨B, cb, rfl, hb1, hb2, hb3⟩ := SliceAt.one_ (f := fun v => v) ht
  rw [hn] at c3 hb1
  have hlen : (us.length : Int) ≤ 9223372036854775807 := by omega
  have HA := Lib.hid ha3
  have HB := Lib.hid hb3
  have HL := Lib.hid hl
  have HN := Lib.hid hn
  clear ha3 hb3 hu ht hl hn
  go_enter Tryz.func28, Tryz.ntmps28
  go_wp2
  go_loopw [3] (fun i wr => ∃ k : Nat, k ≤ us.length ∧ i = .int .i64 k ∧ ∃ n, wr = w.drewN n) (fun i _ => us.length - (intOf i).toNat)
  case atStart => exact ⟨0, by omega, rfl, 0, rfl⟩
  case round =>
    obtain ⟨k, hk, rfl, n, rfl⟩ := hrel
    by_cases hlt : k < us.length
    · obtain ⟨b, o, rfl, _, hcb⟩ := HA.out k hlt
      obtain ⟨b', o', rfl, _, hcb'⟩ := HB.out k (by have := HN.out; omega)
      have hk2 : k < ts.length := by have := HN.out; omega
      obtain ⟨l, hi1, hi2⟩ := HL.out k us[k] ts[k] (List.getElem?_eq_getElem hlt) (List.getElem?_eq_getElem hk2)
      generalize us[k] = x1 at hcb hi1
      generalize ts[k] = x2 at hcb' hi2
      clear hk2
      have HI := Lib.hid (And.intro hi1 hi2)
      clear hi1 hi2
      go_wp2_with fail
      go_quiet (exact sameq2 x1 x2 l w HI.out.1 HI.out.2 n _)
      go_wp2
      go_roundw
      case rel => exact ⟨k + 1, by omega, by go_num, _, rfl⟩
      case measure => simp [intOf]; omega
    · go_wp2
      go_ret
      exact ⟨rfl, n, rfl⟩
end Go.Proofs.YtfjpoadmbdjmnaaGreat
