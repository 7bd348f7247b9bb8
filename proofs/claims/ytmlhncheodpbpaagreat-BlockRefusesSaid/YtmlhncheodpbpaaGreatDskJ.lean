/- Package sdisk: Arm, Twin, and the lists that they copy. -/
import Derived.Test.YtmlhncheodpbpaaGreatDskI
import Derived.Lib.SliceRun
import Derived.Lib.AppendZeros
namespace Go.Proofs.YtmlhncheodpbpaaGreat
open Go Go.RowKit DskP
set_option maxRecDepth 100000
set_option maxHeartbeats 1000000
set_option linter.unusedSimpArgs false

theorem elemI : Elem Tryz.prog 33 3 (.int .i64 0) 1 8 := ⟨Tryz.underlying33, by kernel_rfl, rfl, by omega⟩
theorem elemP : Elem Tryz.prog 84 94 (.agg zeroPl) 129 136 := ⟨Tryz.underlying84, by kernel_rfl, by decide, by omega⟩
/-- append of a list onto an empty one: a row of its own. -/
theorem clone_src {P : Program} {w : World} {t e : TypeId} {z : Value} {size bytes : Nat} (he : Elem P t e z size bytes) {x : Value} {m : Nat} {news : List Value} (hs : Src P size t x m news (w.alloc (.cells #[] e))) (ty : TypeId) (hm : m ≤ maxLen) (hb : m * bytes ≤ 140737488355328) :
    ∃ v' w', (Builtin.append_ #[t, t] ty #[.slice (some ⟨w.heap.size, 0, none⟩) 0 0, x]).run P (w.alloc (.cells #[] e)) = .ok v' w' ∧ w'.ownsRow w.heap.size e size v' m news ∧ Below w.heap.size w w' := by
  have hown : (w.alloc (.cells #[] e)).ownsRow w.heap.size e size (.slice (some ⟨w.heap.size, 0, none⟩) 0 0) 0 [] :=
    ⟨by simp, .inr ⟨w.heap.size, 0, #[], rfl, Nat.le_refl _, Sits.fresh w _ _, Nat.le_refl _, Nat.zero_le _, by simp, by simp⟩⟩
  obtain ⟨v', w', h1, h2, h3, -⟩ := append_src he hown hs ty (by omega) (by rw [Nat.zero_add]; exact hb) (by rw [World.size_alloc]; omega)
  rw [Nat.zero_add, List.nil_append] at h2
  exact ⟨v', w', h1, h2, ((Below.refl _ w).alloc (Nat.le_refl _) _).grown h3 (by rw [World.size_alloc]; omega) fun k hk => by simp [Value.ownBlock] at hk; omega⟩
theorem src_rows {w : World} {size : Nat} {t e : TypeId} (hu : Tryz.prog.underlying t = some (.slice e)) {v : Value} {m : Nat} {xs : List Value} (h : RowAt w 0 e size v m xs) (h1 : ∀ u ∈ xs, u.oneCell' = true) : ∃ A cap, v = .slice A m cap ∧ (A = none → m = 0) ∧ ∀ W, Below w.heap.size w W → Src Tryz.prog size t (.slice A m cap) m xs W := by
  obtain ⟨A, cap, rfl, -, -, h3, -⟩ := h.form
  refine ⟨A, cap, rfl, fun hA => ?_, fun W hb => src_rowAt hu (h.below hb) h1⟩
  rcases Nat.eq_zero_or_pos m with h0 | h0
  · exact h0
  · obtain ⟨g, o, e⟩ := h3 h0
    rw [hA] at e
    cases e
def zeroDk : Array Value := (dl { on := false, n := 0, pl := fun _ => ⟨[], [], 0⟩, waits := [], count := 0, ep := fun _ => 0, wd := fun _ => 0, last := 0, armed := false, left := 0, keep := [] } (.slice none 0 0) (.slice none 0 0) (.slice none 0 0)).toArray
theorem zinfo_disk : (Tryz.prog.info? 87).map (fun i => (i.zero, i.size)) = some (some (.agg zeroDk), 42) := by kernel_rfl
theorem info_disk : (Tryz.prog.info? 87).map (·.size) = some 42 := by kernel_rfl
end Go.Proofs.YtmlhncheodpbpaaGreat
