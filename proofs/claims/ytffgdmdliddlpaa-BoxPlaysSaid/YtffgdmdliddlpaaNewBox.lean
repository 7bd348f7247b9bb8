/- Package ring: what NewBox answers; the statements' own first calls of a box. -/
import Derived.Test.YtffgdmdliddlpaaBox
import Derived.Deep.RegionHeld3
import Derived.BigRegion
namespace Go.Proofs.Ytffgdmdliddlpaa
open Go Go.RowKit Go.Conc
set_option maxRecDepth 100000
set_option maxHeartbeats 2000000
set_option linter.unusedSimpArgs false

theorem bytesI : ∃ i, Try.prog.info? 3 = some i ∧ i.bytes = 8 := by
  have h : (Try.prog.info? 3).map (·.bytes) = some 8 := by kernel_rfl
  obtain ⟨i, hi, hb⟩ := Option.map_eq_some_iff.1 h
  exact ⟨i, hi, hb⟩
theorem bytesB : ∃ i, Try.prog.info? 4 = some i ∧ i.bytes = 1 := by
  have h : (Try.prog.info? 4).map (·.bytes) = some 1 := by kernel_rfl
  obtain ⟨i, hi, hb⟩ := Option.map_eq_some_iff.1 h
  exact ⟨i, hi, hb⟩
theorem mkI (m : Nat) (hm : m ≤ 100000) (w : World) : (Instr.makeChan 45 (.int .i64 m)).run Try.prog w = .ok (.chan (some w.heap.size)) (w.alloc (.chan m #[] false 0 0 false)) := by
  obtain ⟨i, hi, hb⟩ := bytesI
  exact run_makeChan (P := Try.prog) (w := w) Try.underlying45 hi .i64 m (by omega) (by rw [hb]; omega)
theorem mkB (w : World) : (Instr.makeChan 46 (.int .i64 1)).run Try.prog w = .ok (.chan (some w.heap.size)) (w.alloc (.chan 1 #[] false 0 0 false)) := by
  obtain ⟨i, hi, hb⟩ := bytesB
  simpa using run_makeChan (P := Try.prog) (w := w) Try.underlying46 hi .i64 1 (by omega) (by rw [hb]; omega)
theorem newA (v : World) (m : Nat) : BoxAt (((v.alloc (.chan m #[] false 0 0 false)).alloc (.chan 1 #[] false 0 0 false)).alloc (.cells #[.chan (some v.heap.size), .chan (some (v.heap.size + 1))] 48)).drew
    (v.heap.size + 1 + 1) v.heap.size (v.heap.size + 1) m [] false := by
  have h2 := heap_alloc_new (v.alloc (.chan m #[] false 0 0 false)) (.chan 1 #[] false 0 0 false)
  have h3 := heap_alloc_new ((v.alloc (.chan m #[] false 0 0 false)).alloc (.chan 1 #[] false 0 0 false)) (.cells #[.chan (some v.heap.size), .chan (some (v.heap.size + 1))] 48)
  simp only [World.size_alloc] at h2 h3
  refine ⟨h3, ⟨0, 0, ?_⟩, ⟨0, 0, ?_⟩, by omega⟩
  · show (World.alloc _ _).heap[_]? = _
    rw [Below.heap_alloc _ _ _ (by simp; omega), Below.heap_alloc _ _ _ (by simp)]
    exact heap_alloc_new v _
  · show (World.alloc _ _).heap[_]? = _
    rw [Below.heap_alloc _ _ _ (by simp)]
    exact h2
theorem newB (v : World) (m : Nat) : BoxAt (((v.alloc (.chan 1 #[] false 0 0 false)).alloc (.chan m #[] false 0 0 false)).alloc (.cells #[.chan (some (v.heap.size + 1)), .chan (some v.heap.size)] 48)).drew
    (v.heap.size + 1 + 1) (v.heap.size + 1) v.heap.size m [] false := by
  have h2 := heap_alloc_new (v.alloc (.chan 1 #[] false 0 0 false)) (.chan m #[] false 0 0 false)
  have h3 := heap_alloc_new ((v.alloc (.chan 1 #[] false 0 0 false)).alloc (.chan m #[] false 0 0 false)) (.cells #[.chan (some (v.heap.size + 1)), .chan (some v.heap.size)] 48)
  simp only [World.size_alloc] at h2 h3
  refine ⟨h3, ⟨0, 0, ?_⟩, ⟨0, 0, ?_⟩, by omega⟩
  · show (World.alloc _ _).heap[_]? = _
    rw [Below.heap_alloc _ _ _ (by simp)]
    exact h2
  · show (World.alloc _ _).heap[_]? = _
    rw [Below.heap_alloc _ _ _ (by simp; omega), Below.heap_alloc _ _ _ (by simp)]
    exact heap_alloc_new v _
theorem newbox_any (k : Int) (w : World) (m : Nat) (hm : m = min k.toNat 100000) :
    Calls Try.prog 27 #[.int .i64 k] w fun e w' => ∃ p, e = .returned (.pointer (some ⟨p, 0, none⟩)) ∧ w.heap.size ≤ p ∧ (∃ c d, w.heap.size ≤ c ∧ w.heap.size ≤ d ∧ BoxAt w' p c d m [] false) ∧ Below w.heap.size w w' := by
  have HM := Lib.hid hm
  have hmk := mkI m (by omega)
  have hmb := mkB
  clear hm
  go_enter Try.func27, Try.ntmps27
  go_wp2_with fail
  go_region_with (refine (bounded_anyI k _ m HM.out).mono ?_; rintro e w' ⟨rfl, rfl⟩)
  all_goals go_wp2
  all_goals go_ret
  all_goals refine ⟨_, rfl, by omega, ?_, ((((Below.refl w.heap.size w).alloc (Nat.le_refl _) _).alloc (by simp) _).alloc (by simp; omega) _).drew⟩
  all_goals first
    | exact ⟨_, _, Nat.le_refl _, by omega, newA w m⟩
    | exact ⟨_, _, by omega, Nat.le_refl _, newB w m⟩
theorem boxed_any (w : World) : Calls Try.prog 26 #[] w fun e w' => e = .returned (.bool true) ∧ Below w.heap.size w w' := by
  go_enter Try.func26, Try.ntmps26
  go_wp2_with fail
  refine (newbox_any 1 w 1 (by decide)).mono ?_
  rintro e w1 ⟨p, rfl, hp, ⟨c, d, hc, hd, hX⟩, hB⟩
  have HX := Lib.hid hX
  have HB := Lib.hid hB
  have HP := Lib.hid (And.intro hc hd)
  clear hX hB hp hc hd
  go_wp2_with fail
  refine (boxsend_room p c d 1 5 [] _ HX.out (by simp)).mono ?_
  rintro e w2 ⟨rfl, hX, hT⟩
  have HX2 := Lib.hid hX
  have HB2 := Lib.hid (HB.out.trans (hT.below HP.out.1 HP.out.2 HB.out.size))
  clear hX hT
  go_wp2_with fail
  refine (boxsend_full p c d 1 6 _ _ HX2.out (by simp)).mono ?_
  rintro e w3 ⟨rfl, rfl⟩
  go_wp2_with fail
  refine (boxtake_cons p c d 1 5 [] false _ HX2.out).mono ?_
  rintro e w3 ⟨rfl, hX, hT⟩
  have HX3 := Lib.hid hX
  have HB3 := Lib.hid (HB2.out.trans (hT.below HP.out.1 HP.out.2 HB2.out.size))
  clear hX hT
  go_wp2_with fail
  refine (boxtake_empty p c d 1 false _ HX3.out).mono ?_
  rintro e w4 ⟨rfl, rfl⟩
  go_wp2
  go_ret
  exact ⟨rfl, HB3.out⟩
end Go.Proofs.Ytffgdmdliddlpaa
