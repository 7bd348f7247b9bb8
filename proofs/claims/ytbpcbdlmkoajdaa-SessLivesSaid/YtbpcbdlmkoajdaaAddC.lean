/- A region that draws its order, of the form 'x.f += x.r.call(a - x.f)': two reads of a cell, a call, a store behind all (for wp_region_exV). -/
import Derived.Test.YtbpcbdlmkoajdaaFlatV
namespace Go.Proofs.Ytbpcbdlmkoajdaa
open Go Go.RowKit
set_option maxRecDepth 100000

/-- Operations 3 and 12 read the cell, 13 makes the call's argument, 14 calls, 15 adds, 18 stores. X: ahead of the call; Y: behind it; Z: behind the store. -/
structure ClsD (X Y Z : World → Prop) (d : Nat → Option Value) (W : World) : Prop where
  x : d 18 = none → d 14 = none → X W
  y : d 18 = none → (d 14).isSome = true → Y W
  z : (d 18).isSome = true → Z W
  i15 : (d 15).isSome = true → (d 3).isSome = true ∧ (d 14).isSome = true
  i13 : (d 13).isSome = true → (d 12).isSome = true
  i14 : (d 14).isSome = true → (d 13).isSome = true
  i18 : (d 18).isSome = true → (d 15).isSome = true
section
variable {X Y Z : World → Prop} {d : Nat → Option Value} {W W' : World}
theorem none_of {o : Option Value} (h : ¬ o.isSome = true) : o = none := by cases o <;> simp_all
theorem ClsD.start (h : X W) : ClsD X Y Z (fun _ => none) W := ⟨fun _ _ => h, fun _ h => by simp at h, fun h => by simp at h, fun h => by simp at h, fun h => by simp at h, fun h => by simp at h, fun h => by simp at h⟩
theorem ClsD.pure {k : Nat} (h : ClsD X Y Z d W) (v : Value) (h1 : k ≠ 3 ∧ k ≠ 12 ∧ k ≠ 13 ∧ k ≠ 14 ∧ k ≠ 15 ∧ k ≠ 18) : ClsD X Y Z (setv d k v) W := by
  obtain ⟨a, b, c, e, f, g⟩ := h1
  constructor <;> simp only [setv_other d v a, setv_other d v b, setv_other d v c, setv_other d v e, setv_other d v f, setv_other d v g]
  all_goals first | exact h.x | exact h.y | exact h.z | exact h.i15 | exact h.i13 | exact h.i14 | exact h.i18 | (intro _; rfl) | (intro _; exact h12) | (intro _; exact ⟨h3, h14⟩) | (intro e; exact ⟨rfl, (h.i15 e).2⟩)
theorem ClsD.all {C : World → Prop} (h : ClsD X Y Z d W) (hx : X W → C W) (hy : Y W → C W) (hz : Z W → C W) : C W := by
  by_cases h1 : (d 18).isSome = true
  · exact hz (h.z h1)
  · by_cases h2 : (d 14).isSome = true
    · exact hy (h.y (none_of h1) h2)
    · exact hx (h.x (none_of h1) (none_of h2))
theorem ClsD.no15 (h : ClsD X Y Z d W) (h3 : d 3 = none) : d 18 = none := none_of fun e => by
  have := (h.i15 (h.i18 e)).1
  rw [h3] at this
  cases this
theorem ClsD.early (h : ClsD X Y Z d W) (h14 : d 14 = none) : X W := h.x (none_of fun e => by
  have := (h.i15 (h.i18 e)).2
  rw [h14] at this
  cases this) h14
theorem ClsD.first (h : ClsD X Y Z d W) (h12 : d 12 = none) : X W := h.early (none_of fun e => by
  have := h.i13 (h.i14 e)
  rw [h12] at this
  cases this)
theorem ClsD.mid {C : World → Prop} (h : ClsD X Y Z d W) (h3 : d 3 = none) (hx : X W → C W) (hy : Y W → C W) : C W := by
  by_cases h2 : (d 14).isSome = true
  · exact hy (h.y (h.no15 h3) h2)
  · exact hx (h.x (h.no15 h3) (none_of h2))
theorem ClsD.set3 (h : ClsD X Y Z d W) (v : Value) : ClsD X Y Z (setv d 3 v) W := by
  constructor <;> simp only [setv_other d v (show 3 ≠ 12 by decide), setv_other d v (show 3 ≠ 13 by decide), setv_other d v (show 3 ≠ 14 by decide), setv_other d v (show 3 ≠ 15 by decide), setv_other d v (show 3 ≠ 18 by decide), setv_same]
  all_goals first | exact h.x | exact h.y | exact h.z | exact h.i15 | exact h.i13 | exact h.i14 | exact h.i18 | (intro _; rfl) | (intro _; exact h12) | (intro _; exact ⟨h3, h14⟩) | (intro e; exact ⟨rfl, (h.i15 e).2⟩)
theorem ClsD.set12 (h : ClsD X Y Z d W) (v : Value) : ClsD X Y Z (setv d 12 v) W := by
  constructor <;> simp only [setv_other d v (show 12 ≠ 3 by decide), setv_other d v (show 12 ≠ 13 by decide), setv_other d v (show 12 ≠ 14 by decide), setv_other d v (show 12 ≠ 15 by decide), setv_other d v (show 12 ≠ 18 by decide), setv_same]
  all_goals first | exact h.x | exact h.y | exact h.z | exact h.i15 | exact h.i13 | exact h.i14 | exact h.i18 | (intro _; rfl) | (intro _; exact h12) | (intro _; exact ⟨h3, h14⟩) | (intro e; exact ⟨rfl, (h.i15 e).2⟩)
theorem ClsD.set13 (h : ClsD X Y Z d W) (v : Value) (h12 : (d 12).isSome = true) : ClsD X Y Z (setv d 13 v) W := by
  constructor <;> simp only [setv_other d v (show 13 ≠ 3 by decide), setv_other d v (show 13 ≠ 12 by decide), setv_other d v (show 13 ≠ 14 by decide), setv_other d v (show 13 ≠ 15 by decide), setv_other d v (show 13 ≠ 18 by decide), setv_same]
  all_goals first | exact h.x | exact h.y | exact h.z | exact h.i15 | exact h.i13 | exact h.i14 | exact h.i18 | (intro _; rfl) | (intro _; exact h12) | (intro _; exact ⟨h3, h14⟩) | (intro e; exact ⟨rfl, (h.i15 e).2⟩)
theorem ClsD.set15 (h : ClsD X Y Z d W) (v : Value) (h3 : (d 3).isSome = true) (h14 : (d 14).isSome = true) : ClsD X Y Z (setv d 15 v) W := by
  constructor <;> simp only [setv_other d v (show 15 ≠ 3 by decide), setv_other d v (show 15 ≠ 12 by decide), setv_other d v (show 15 ≠ 14 by decide), setv_other d v (show 15 ≠ 13 by decide), setv_other d v (show 15 ≠ 18 by decide), setv_same]
  all_goals first | exact h.x | exact h.y | exact h.z | exact h.i15 | exact h.i13 | exact h.i14 | exact h.i18 | (intro _; rfl) | (intro _; exact h12) | (intro _; exact ⟨h3, h14⟩) | (intro e; exact ⟨rfl, (h.i15 e).2⟩)
theorem ClsD.call (h : ClsD X Y Z d W) (v : Value) (h14 : d 14 = none) (h13 : (d 13).isSome = true) (hy : Y W') : ClsD X Y Z (setv d 14 v) W' := by
  have h18 : d 18 = none := none_of fun e => by
    have := (h.i15 (h.i18 e)).2
    rw [h14] at this
    cases this
  have h15 : d 15 = none := none_of fun e => by
    have := (h.i15 e).2
    rw [h14] at this
    cases this
  constructor <;> simp only [setv_other d v (show 14 ≠ 3 by decide), setv_other d v (show 14 ≠ 12 by decide), setv_other d v (show 14 ≠ 15 by decide), setv_other d v (show 14 ≠ 13 by decide), setv_other d v (show 14 ≠ 18 by decide), setv_same, h18, h15]
  all_goals first | (intro _ _; exact hy) | exact h.i13 | (intro _; exact h13) | (intro _ e; cases e; done) | (intro e; cases e; done)
theorem ClsD.store (h : ClsD X Y Z d W) (v : Value) (h15 : (d 15).isSome = true) (hz : Z W') : ClsD X Y Z (setv d 18 v) W' := by
  constructor <;> simp only [setv_other d v (show 18 ≠ 3 by decide), setv_other d v (show 18 ≠ 12 by decide), setv_other d v (show 18 ≠ 15 by decide), setv_other d v (show 18 ≠ 13 by decide), setv_other d v (show 18 ≠ 14 by decide), setv_same]
  all_goals first | exact h.i13 | exact h.i14 | exact h.i15 | (intro _; exact hz) | (intro _; exact h15) | (intro e; cases e; done)
end
end Go.Proofs.Ytbpcbdlmkoajdaa
