/- Package wire: its small helpers, each with what it answers. -/
import Derived.Test.YtjjjflmpindncaaRows
import Derived.Test.YtjjjflmpindncaaKit
import Derived.Test.YtjjjflmpindncaaNum
namespace Go.Proofs.Ytjjjflmpindncaa
open Go Go.RowKit
set_option maxRecDepth 100000
theorem Try.info5 : (Try.prog.info? 5).map (fun i => (i.zero, i.size, i.bytes)) = some (some (.int .u8 0), 1, 1) := by kernel_rfl

/-- lay: the n lowest bytes. -/
theorem lay_any (v n : Nat) (w : World) (h8 : n ≤ 8) (_hv2 : (v : Int) < 18446744073709551616) : Calls Try.prog 38 #[.int .u64 v, .int .i64 n] w fun e w' => e = .returned (.string (str (leb n v))) ∧ Below w.heap.size w w' := by
  obtain ⟨i0, hi, hz0, hz1, hz2⟩ := info_parts Try.info5
  have hmk := run_make (P := Try.prog) w 35 5 i0 _ Try.underlying35 hi hz0 .i64 .i64 n n (by omega) (by omega) (by rw [hz2]; omega) (by omega)
  go_enter Try.func38, Try.ntmps38
  go_wp2
  clear hmk
  go_loopw [11] (fun i wr => ∃ k : Nat, k ≤ n ∧ i = .int .i64 k ∧ Sits wr w.heap.size 5 (byteCells (leb k v ++ List.replicate (n - k) 0)) ∧ Below w.heap.size w wr) (fun i _ => n - (intOf i).toNat)
  case atStart =>
    refine ⟨0, by omega, rfl, ?_, (Below.refl _ _).alloc (Nat.le_refl _) _⟩
    rw [byteCells_made]
    exact Sits.fresh w 5 _
  case round =>
    obtain ⟨k, hk, rfl, hs, hb⟩ := hrel
    have hc : k < n → ∃ x, wr.cell? ⟨w.heap.size, k, none⟩ = some (.int .u8 x) := fun h =>
      ⟨_, (hs.cell k).trans (byteCells_get _ _ (by rw [List.length_append, leb_length]; simp; omega))⟩
    have hf := hs.warm k
    by_cases hlt : k < n
    · obtain ⟨x, hc⟩ := hc hlt
      go_wp2
      go_roundw
      case rel =>
        refine ⟨k + 1, by omega, by go_num, ?_, hb.setCell (Nat.le_refl _) _⟩
        have := hs.put k (.int .u8 (↑v / 2 ^ (8 * k) % 256))
        rw [byte_nat, byteCells_set, leb_step n v k hlt] at this
        rw [byte_nat]
        exact this
      case measure => simp [intOf]; omega
    · have hcv := run_convert_bytes_back (P := Try.prog) wr 35 9 5 ⟨w.heap.size, 0, none⟩ n (leb k v) Try.underlying35 Try.underlying5 Try.underlying9 (fun j hj => by
        rw [show (⟨w.heap.size, 0, none⟩ : Addr).add j = ⟨w.heap.size, j, none⟩ by unfold Addr.add; split <;> simp_all]
        rw [hs.cell j, byteCells_get _ _ (by simp; omega)]
        simp [List.getElem_append_left hj])
      rw [leb_length] at hcv
      obtain rfl : k = n := by omega
      go_wp2
      go_ret
      exact ⟨rfl, hb⟩

theorem isWidth_any (n : Int) (w : World) : Calls Try.prog 35 #[.int .i64 n] w fun e w' => e = .returned (.bool (decide (1 ≤ n ∧ n ≤ 8))) ∧ w = w' := by
  go_enter Try.func35, Try.ntmps35
  go_wp2
  all_goals
    go_ret
    refine ⟨?_, rfl⟩
    simp
    omega
theorem isWidth_yes (n : Int) (w : World) (h : 1 ≤ n ∧ n ≤ 8) : Calls Try.prog 35 #[.int .i64 n] w fun e w' => e = .returned (.bool true) ∧ w = w' :=
  (isWidth_any n w).mono fun _ _ ⟨he, hw⟩ => ⟨by rw [he, decide_eq_true h], hw⟩
theorem isWidth_no (n : Int) (w : World) (h : ¬(1 ≤ n ∧ n ≤ 8)) : Calls Try.prog 35 #[.int .i64 n] w fun e w' => e = .returned (.bool false) ∧ w = w' :=
  (isWidth_any n w).mono fun _ _ ⟨he, hw⟩ => ⟨by rw [he, decide_eq_false h], hw⟩

end Go.Proofs.Ytjjjflmpindncaa
