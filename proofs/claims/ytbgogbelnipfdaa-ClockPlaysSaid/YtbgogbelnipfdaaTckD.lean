/- The statements of chapter 16: their own first calls of a clock; pairs of ints that come in. -/
import Derived.Test.YtbgogbelnipfdaaTckB
import Derived.Test.YtbgogbelnipfdaaTckC
import Derived.Test.YtbgogbelnipfdaaInts
import Derived.Test.YtbgogbelnipfdaaBase
import Derived.OpenShut
import Derived.ChangeOld
namespace Go.Proofs.Ytbgogbelnipfdaa
open Go Go.RowKit Go.ChangeShapes Go.WideShapes Go.ChangeAt TckP
set_option maxRecDepth 100000
set_option maxHeartbeats 2000000
set_option linter.unusedSimpArgs false

theorem has_step {p : Nat} {c : Clk} {w0 w : World} (x : Int) (h : Has (CK p c) w0 w) (hr : (c.real : Int) ≤ 1000000000000) : Calls Try.prog 12 #[.pointer (some ⟨p, 0, none⟩), .int .i64 x] w fun e w' => e = .returned (.int .i64 (stepF c x).now) ∧ Has (CK p (stepF c x)) w0 w' := (tstep_turns x hr).has h
theorem has_kept {p : Nat} {c : Clk} {w0 w : World} (h : Has (CK p c) w0 w) : Calls Try.prog 11 #[.pointer (some ⟨p, 0, none⟩)] w fun e w' => e = .returned (.bool (!c.b)) ∧ w = w' := tkept_any h.here
theorem has_real {p : Nat} {c : Clk} {w0 w : World} (h : Has (CK p c) w0 w) : Calls Try.prog 15 #[.pointer (some ⟨p, 0, none⟩)] w fun e w' => e = .returned (.int .i64 (c.real : Int)) ∧ w = w' := treal_any h.here
theorem has_now {p : Nat} {c : Clk} {w0 w : World} (h : Has (CK p c) w0 w) : Calls Try.prog 14 #[.pointer (some ⟨p, 0, none⟩)] w fun e w' => e = .returned (.int .i64 c.now) ∧ w = w' := tnow_any h.here
theorem ones_snoc (k : Nat) : runC (List.replicate (k + 1) 1) = stepF (runC (List.replicate k 1)) 1 := by rw [List.replicate_succ', run_snoc]
theorem alive16_any (w : World) : Calls Try.prog 9 #[] w fun e w' => e = .returned (.bool true) ∧ Below w.heap.size w w' := by
  have HN := Lib.hid (tickNew_any w)
  go_enter Try.func9, Try.ntmps9
  go_wp2_with fail
  refine HN.out.mono ?_
  rintro e w1 ⟨p, rfl, h1⟩
  have H1 : Hid (Has (CK p (runC (List.replicate 0 1))) w w1) := Lib.hid h1
  clear h1 HN
  go_wp2_with fail
  go_loopw [2] (fun i wr => ∃ k : Nat, k ≤ 8 ∧ i = .int .i64 (k : Int) ∧ Hid (Has (CK p (runC (List.replicate k 1))) w wr)) (fun i _ => 8 - (intOf i).toNat)
  case atStart => exact ⟨0, by omega, rfl, H1⟩
  case round =>
    obtain ⟨k, hk, rfl, hI⟩ := hrel
    by_cases hlt : k < 8
    · have hs := has_step 1 hI.out (by rw [run_real]; simp; omega)
      rw [← ones_snoc] at hs
      have HS := Lib.hid hs
      have hltI : (k : Int) < 8 := by omega
      clear hI hs
      go_wp2_with fail
      refine HS.out.mono ?_
      rintro e w2 ⟨rfl, h2⟩
      have H2 := Lib.hid h2
      clear h2 HS
      generalize (runC (List.replicate (k + 1) 1)).now = y0
      go_wp2
      go_roundw
      case rel => exact ⟨k + 1, by omega, by go_num, H2⟩
      case measure => simp [intOf]; omega
    · obtain rfl : k = 8 := by omega
      have h8 := hI.out
      have HK := Lib.hid (has_kept h8)
      rw [show (!(runC (List.replicate 8 1)).b) = true by decide] at HK
      have HS := Lib.hid (has_step 4 h8 (by decide))
      rw [show (stepF (runC (List.replicate 8 1)) 4).now = 12 by decide] at HS
      clear hI h8
      go_wp2_with fail
      refine HK.out.mono ?_
      rintro e w2 ⟨rfl, rfl⟩
      go_wp2_with fail
      refine HS.out.mono ?_
      rintro e w3 ⟨rfl, h3⟩
      have HK3 := Lib.hid (has_kept h3)
      rw [show (!(stepF (runC (List.replicate 8 1)) 4).b) = false by decide] at HK3
      have HR3 := Lib.hid (has_real h3)
      rw [show (((stepF (runC (List.replicate 8 1)) 4).real : Nat) : Int) = 9 by decide] at HR3
      have HB := Lib.hid h3.below
      clear h3 HS HK
      go_wp2_with fail
      refine HK3.out.mono ?_
      rintro e w2 ⟨rfl, rfl⟩
      go_wp2_with fail
      refine HR3.out.mono ?_
      rintro e w2 ⟨rfl, rfl⟩
      go_wp2
      go_ret
      exact ⟨rfl, HB.out⟩
end Go.Proofs.Ytbgogbelnipfdaa
