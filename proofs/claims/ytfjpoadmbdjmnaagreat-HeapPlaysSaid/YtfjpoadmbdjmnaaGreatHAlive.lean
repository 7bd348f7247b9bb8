/- Chapter 4's first call, whose answer the document fixes; the list of a nil heap. -/
import Derived.Test.YtfjpoadmbdjmnaaGreatHeapFI
namespace Go.Proofs.YtfjpoadmbdjmnaaGreat
open Go Go.RowKit Go.Maps HeapP
set_option maxRecDepth 100000
set_option maxHeartbeats 1000000
set_option linter.unusedSimpArgs false

theorem alive4_any (w : World) : Calls Tryz.prog 4 #[] w fun e w' => e = .returned (.bool true) ∧ Below w.heap.size w w' := by
  go_enter Tryz.func4, Tryz.ntmps4
  go_wp2_with fail
  refine (newI_any w).mono ?_
  rintro e w1 ⟨hb, rfl, hH, hB⟩
  have H1 := Lib.hid hH
  have B1 := Lib.hid hB
  clear hH hB
  go_wp2_with fail
  refine (hputI_any hb w.heap.size 0 0 [] 5 50 w1 H1.out (by omega) (by omega) B1.out.size).mono ?_
  rintro e w2 ⟨rfl, hH, _, hB⟩
  have H2 := Lib.hid hH
  have B2 := Lib.hid (B1.out.trans hB)
  clear hH hB
  go_wp2_with fail
  refine (hputI_any hb w.heap.size 1 1 [⟨5, 1, 50⟩] 3 30 w2 H2.out (by omega) (by omega) B2.out.size).mono ?_
  rintro e w3 ⟨rfl, hH, _, hB⟩
  have H3 := Lib.hid hH
  have B3 := Lib.hid (B2.out.trans hB)
  clear hH hB
  go_wp2_with fail
  refine (takeI_due hb w.heap.size 2 2 ⟨3, 2, 30⟩ [⟨5, 1, 50⟩] 4 w3 H3.out (by decide) (by omega) B3.out.size).mono ?_
  rintro e w4 ⟨rfl, hH, _, hB⟩
  have H4 := Lib.hid hH
  have B4 := Lib.hid (B3.out.trans hB)
  clear hH hB
  go_wp2_with fail
  refine (takeI_early hb w.heap.size 3 2 ⟨5, 1, 50⟩ [] 4 w4 H4.out (by decide)).mono ?_
  rintro e w5 ⟨rfl, hB⟩
  have H5 := Lib.hid (H4.out.below hB)
  have B5 := Lib.hid (B4.out.trans (hB.mono B4.out.size))
  clear hB
  go_wp2_with fail
  refine (hlenI_any hb w.heap.size 3 2 [⟨5, 1, 50⟩] w5 H5.out).mono ?_
  rintro e w6 ⟨rfl, rfl⟩
  go_wp2
  go_ret
  exact ⟨rfl, B5.out⟩
theorem listI_nil (w : World) : Calls Tryz.prog 14 #[.pointer none] w fun e w' => e = .returned (.slice none 0 0) ∧ w = w' := by
  go_enter Tryz.func14, Tryz.ntmps14
  go_wp2_with fail
  refine (hlenI_nil w).mono ?_
  rintro e w' ⟨rfl, rfl⟩
  go_wp2
  go_ret
  exact ⟨rfl, rfl⟩
end Go.Proofs.YtfjpoadmbdjmnaaGreat
