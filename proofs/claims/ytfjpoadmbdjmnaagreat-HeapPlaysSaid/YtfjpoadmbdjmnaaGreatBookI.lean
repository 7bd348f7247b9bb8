/- commonsbook's book: its lists, for Apart. -/
import Derived.Test.YtfjpoadmbdjmnaaGreatApartI
import Derived.Test.YtfjpoadmbdjmnaaGreatBookD
namespace Go.Proofs.YtfjpoadmbdjmnaaGreat
open Go Go.RowKit
set_option maxRecDepth 100000
set_option maxHeartbeats 1000000
set_option linter.unusedSimpArgs false

/-- A book's lists, for Apart. -/
theorem BookAt.apart {w : World} {p lo : Nat} {ks : List (Option Nat × Nat)} {ts : List Value} (h : BookAt w p lo ks ts) (hlo : lo ≤ w.heap.size) :
    Calls Tryz.prog 18 #[.pointer (some ⟨p, 0, none⟩)] w fun e w' => e = .returned (.bool true) ∧ Below lo w w' := by
  obtain ⟨iv, wv, hs, hi, hw, _⟩ := h.rows
  have hmx : maxLen = 9223372036854775807 := by decide
  have hiform : ∃ A cap, iv = .slice A ks.length cap ∧ ks.length ≤ cap ∧ (cap : Int) ≤ 9223372036854775807 ∧ ∀ i (h : i < ks.length), ∃ b o rc, A = some ⟨b, o, none⟩ ∧ Sits w b 63 rc ∧ rc[o + i]? = some (keptV ks[i]) := by
    obtain ⟨_, ⟨rfl, h0⟩ | ⟨g, cap, cur, rfl, h1, h2, h3, h4, h5, h6⟩⟩ := hi
    · exact ⟨none, 0, by rw [h0], by omega, by omega, fun i hi => by omega⟩
    · refine ⟨_, cap, rfl, h3, by omega, fun i hi => ⟨g, 0, cur, rfl, h2, ?_⟩⟩
      have e : (ks.map keptV)[i]? = some (keptV ks[i]) := by simp [hi]
      rw [← h6, List.getElem?_take, if_pos (by omega), Array.getElem?_toList] at e
      rwa [Nat.zero_add]
  obtain ⟨A, cap, rfl, h1, h2, h3⟩ := hiform
  refine apartI_yes p ks A cap wv ts w hs ⟨h1, h2, ⟨_, _, hs, by decide, rfl⟩, h3, h.small, h.blocks, h.nodup⟩ h.few ?_ h.len (fun i x y hx hy => by
    obtain ⟨l, e1, e2⟩ := h.same i x y hx hy
    exact ⟨l, e1, IRow.ints e2⟩) lo h.lo_g hlo
  obtain ⟨_, ⟨rfl, h0⟩ | ⟨g, cap', cur, rfl, g1, g2, g3, g4, g5, g6⟩⟩ := hw
  · rw [List.eq_nil_of_length_eq_zero h0]
    exact SliceAt.nil _ _ _
  · refine ⟨_, cap', rfl, g3, by omega, fun i hi => ⟨g, 0, rfl, Sits.lt g2, fun j u hu => ?_⟩⟩
    rcases j with _ | j
    · simp only [List.getElem?_cons_zero, Option.some.injEq] at hu
      subst hu
      rw [Nat.mul_one, Nat.add_zero, Nat.zero_add, Sits.cell g2]
      obtain ⟨y, hy⟩ : ∃ y, y = ts[i] := ⟨_, rfl⟩
      have e : ts[i]? = some y := by rw [hy]; exact List.getElem?_eq_getElem hi
      rw [← hy]
      rwa [← g6, List.getElem?_take, if_pos (by omega), Array.getElem?_toList] at e
    · simp at hu

end Go.Proofs.YtfjpoadmbdjmnaaGreat
