/- The statements of chapter 3: their own first calls of a ring. -/
import Derived.Test.YtoejfhjfphdamaaGreatRingEI
namespace Go.Proofs.YtoejfhjfphdamaaGreat
open Go Go.RowKit
set_option maxRecDepth 100000
set_option maxHeartbeats 2000000
set_option linter.unusedSimpArgs false

theorem alive_any (w : World) : Calls Tryz.prog 4 #[] w fun e w' => e = .returned (.bool true) ∧ Below w.heap.size w w' := by
  go_enter Tryz.func4, Tryz.ntmps4
  go_wp2_with fail
  refine (newI_any 2 w 2 (by decide)).mono ?_
  rintro e w1 ⟨rfl, hR, hB⟩
  have HR := Lib.hid hR
  have HB := Lib.hid hB
  clear hR hB
  go_wp2_with fail
  have hb2 := HB.out.alloc HB.out.size (.cells #[.int .i64 1, .int .i64 2, .int .i64 3] 3)
  have hR2 := HR.out.below ((Below.refl _ w1).alloc (Nat.le_refl _) (.cells #[.int .i64 1, .int .i64 2, .int .i64 3] 3))
  have hS := Sits.fresh w1 3 #[.int .i64 1, .int .i64 2, .int .i64 3]
  have hlt := HR.out.lt
  generalize w1.alloc (.cells #[.int .i64 1, .int .i64 2, .int .i64 3] 3) = w2 at hb2 hR2 hS ⊢
  have hsl := sliceI_sits hS [1, 2, 3] 3 (by simp) (by omega) (fun i hi => by
    rcases i with _ | _ | _ | i
    · rfl
    · rfl
    · rfl
    · simp at hi; omega)
  refine (pushI_any _ _ 2 [] [1, 2, 3] _ 3 2 rfl w2 hR2 hsl (by
    intro b o _ h
    simp only [Option.some.injEq, Addr.mk.injEq, and_true] at h
    omega)).mono ?_
  rintro e w3 ⟨rfl, g3, hg3, hR3, hT3⟩
  have hb3 := hb2.trans (hT3.below (Nat.le_refl _) (Nat.le_refl _) hb2.size)
  have hg3' : w.heap.size ≤ g3 := by
    have := hb2.size
    rcases hg3 with rfl | h <;> omega
  have HR3 : Hid (RingI w3 w.heap.size g3 2 [1, 2]) := Lib.hid (by simpa using hR3)
  have HB3 := Lib.hid hb3
  have HG3 := Lib.hid hg3'
  clear hb2 hR2 hS hlt hsl hR3 hT3 hg3 hb3 hg3' HR HB
  go_wp2_with fail
  refine (popI_cons _ _ 2 1 [2] w3 HR3.out).mono ?_
  rintro e w4 ⟨rfl, hR4, hT4⟩
  have HR4 := Lib.hid hR4
  have HB4 := Lib.hid (HB3.out.trans (hT4.below (Nat.le_refl _) HG3.out HB3.out.size))
  clear hR4 hT4 HR3 HB3
  go_wp2_with fail
  refine (peekI_in _ _ 2 [2] 0 w4 HR4.out (by simp)).mono ?_
  rintro e w5 ⟨rfl, n, rfl⟩
  simp only [List.getElem_cons_zero]
  go_wp2_with fail
  refine (roomI_any _ _ 2 [2] _ (HR4.out.drewN n)).mono ?_
  rintro e w6 ⟨rfl, n2, rfl⟩
  go_wp2
  go_ret
  exact ⟨rfl, below_drewN HB4.out _⟩
end Go.Proofs.YtoejfhjfphdamaaGreat
