/- A zero disk; Table of a nil one. -/
import Derived.Test.YtncglemaeogiaaaDskL
namespace Go.Proofs.Ytncglemaeogiaaa
open Go Go.RowKit DskP
set_option maxRecDepth 100000
set_option maxHeartbeats 1000000
set_option linter.unusedSimpArgs false

def zeroD : Dsk := { on := false, n := 0, pl := fun _ => ⟨zero64, zero64, 0⟩, waits := [], count := 0, ep := fun _ => 0, wd := fun _ => 0, last := 0, armed := false, left := 0, keep := [] }
theorem zeroD_at (w : World) : Own w (w.alloc (.cells zeroDk 29)) w.heap.size zeroD := by
  refine ⟨⟨⟨fun i hi => ?_, by simp [zeroD], by simp [zeroD], by decide, by simp [zeroD], by decide⟩, Nat.le_refl _, .slice none 0 0, .slice none 0 0, .slice none 0 0, Sits.fresh w _ _, RowAt.nil _ _ _ _, World.ownsRow_nil _ _ _ _, RowAt.nil _ _ _ _, fun b hb => ?_⟩, (Below.refl _ w).alloc (Nat.le_refl _) _⟩
  · simp [zeroD] at hi
  · rcases hb with hb | hb | hb <;> simp [Value.ownBlock] at hb
theorem table_nil (w : World) : Calls Try.prog 27 #[.pointer none] w fun e w' => e = .returned (.slice none 0 0) ∧ w = w' := by
  go_enter Try.func27, Try.ntmps27
  go_wp2_with fail
  refine (sectors_nil w).mono ?_
  rintro e w1 ⟨rfl, rfl⟩
  go_wp2
  go_ret
  exact ⟨rfl, rfl⟩
theorem own_restore0 {w0 w : World} {p : Nat} (h : Own w0 w p zeroD) : Calls Try.prog 12 #[.pointer (some ⟨p, 0, none⟩)] w fun x w' => x = .returned (.tuple #[]) ∧ Own w0 w' p zeroD := by
  refine (restore_any p zeroD w h.disk).mono ?_
  rintro e w' ⟨rfl, hd, hm⟩
  exact ⟨rfl, h.step hd hm⟩
theorem own_last {w0 w : World} {p : Nat} {D : Dsk} (h : Own w0 w p D) : Calls Try.prog 23 #[.pointer (some ⟨p, 0, none⟩)] w fun x w' => x = .returned (.int .u64 (D.last : Int)) ∧ w = w' := dlast_any p D w h.disk
theorem zero_last {w0 w : World} {p : Nat} (h : Own w0 w p zeroD) : Calls Try.prog 23 #[.pointer (some ⟨p, 0, none⟩)] w fun x w' => x = .returned (.int .u64 0) ∧ w = w' := dlast_any p zeroD w h.disk
theorem zero_sectors {w0 w : World} {p : Nat} (h : Own w0 w p zeroD) : Calls Try.prog 26 #[.pointer (some ⟨p, 0, none⟩)] w fun x w' => x = .returned (.int .i64 0) ∧ w = w' := sectors_any p zeroD w h.disk
end Go.Proofs.Ytncglemaeogiaaa
