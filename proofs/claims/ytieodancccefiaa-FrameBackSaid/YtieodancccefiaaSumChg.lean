/- A text with one byte changed: what sums say of it; a row of bytes, one of them stored, as a text again. -/
import Derived.Test.YtieodancccefiaaGE
namespace Go.Proofs.Ytieodancccefiaa
open Go Go.RowKit
set_option maxRecDepth 100000
set_option maxHeartbeats 2000000

theorem opn_changed (t : List UInt8) (i : Nat) (x : UInt8) (h : i < (sum4 t ++ t).length) (hx : x ≠ (sum4 t ++ t)[i]) : opnS (str ((sum4 t ++ t).set i x)) = ⟨#[]⟩ ∧ opnE (str ((sum4 t ++ t).set i x)) = 6 := by
  have h4 := sum4_length t
  by_cases hi : i < 4
  · rw [List.set_append_left _ _ (by omega)]
    have := opn_str ((sum4 t).set i x) t (by rw [List.length_set, h4])
    have hne : ¬ (sum4 t).set i x = sum4 t := fun e => by
      have hg := congrArg (·[i]?) e
      simp only [List.getElem?_set_self (show i < (sum4 t).length by omega)] at hg
      rw [List.getElem_append_left (by omega)] at hx
      rw [List.getElem?_eq_getElem (by omega)] at hg
      exact hx (Option.some.inj hg)
    rw [this.1, this.2, if_neg hne, if_neg hne]
    exact ⟨rfl, rfl⟩
  · rw [List.set_append_right _ _ (by omega)]
    have := opn_str (sum4 t) (t.set (i - (sum4 t).length) x) h4
    have hj : i - (sum4 t).length < t.length := by rw [List.length_append] at h; omega
    have hne : ¬ sum4 t = sum4 (t.set (i - (sum4 t).length) x) := fun e => by
      rw [List.getElem_append_right (by omega)] at hx
      exact sum4_set t _ hj x hx e.symm
    rw [this.1, this.2, if_neg hne, if_neg hne]
    exact ⟨rfl, rfl⟩
theorem rd_changed (t : List UInt8) (i : Nat) (x : UInt8) (h : i < (t ++ sum4 t).length) (hx : x ≠ (t ++ sum4 t)[i]) : rdS (str ((t ++ sum4 t).set i x)) = ⟨#[]⟩ ∧ rdE (str ((t ++ sum4 t).set i x)) = 6 := by
  have h4 := sum4_length t
  by_cases hi : i < t.length
  · rw [List.set_append_left _ _ hi]
    have := rd_str (t.set i x) (sum4 t) h4
    have hne : ¬ sum4 t = sum4 (t.set i x) := fun e => by
      rw [List.getElem_append_left hi] at hx
      exact sum4_set t i hi x hx e.symm
    rw [this.1, this.2, if_neg hne, if_neg hne]
    exact ⟨rfl, rfl⟩
  · rw [List.set_append_right _ _ (by omega)]
    have hl : i - t.length < (sum4 t).length := by rw [List.length_append] at h; omega
    have := rd_str t ((sum4 t).set (i - t.length) x) (by rw [List.length_set, h4])
    have hne : ¬ (sum4 t).set (i - t.length) x = sum4 t := fun e => by
      have hg := congrArg (·[i - t.length]?) e
      simp only [List.getElem?_set_self hl] at hg
      rw [List.getElem_append_right (by omega)] at hx
      rw [List.getElem?_eq_getElem hl] at hg
      exact hx (Option.some.inj hg)
    rw [this.1, this.2, if_neg hne, if_neg hne]
    exact ⟨rfl, rfl⟩
theorem text_of_cells (w : World) (g cap n : Nat) (l : List UInt8) (hc : ∀ j (h : j < l.length), w.cell? ⟨g, j, none⟩ = some (.int .u8 (l[j].toNat : Int))) (hn : n = l.length) :
    (convert 55 9 (.slice (some ⟨g, 0, none⟩) n cap)).run Try.prog w = .ok (.string (str l)) w := by
  subst hn
  exact run_convert_bytes_back (P := Try.prog) w 55 9 5 ⟨g, 0, none⟩ cap l Try.underlying55 Try.underlying5 Try.underlying9 (fun j hj => by
    rw [show (⟨g, 0, none⟩ : Addr).add j = ⟨g, j, none⟩ by unfold Addr.add; split <;> simp_all]
    exact hc j hj)
theorem cells_set (w : World) (g : Nat) (l : List UInt8) (p : Nat) (u : UInt8) (hc : ∀ j (h : j < l.length), w.cell? ⟨g, j, none⟩ = some (.int .u8 (l[j].toNat : Int))) :
    ∀ j (h : j < (l.set p u).length), (w.setCell ⟨g, p, none⟩ (.int .u8 (u.toNat : Int))).cell? ⟨g, j, none⟩ = some (.int .u8 (((l.set p u)[j]).toNat : Int)) := by
  intro j h
  have h' : j < l.length := by simpa using h
  by_cases e : p = j
  · subst e
    rw [World.cell?_setCell_same _ _ _ (hc p h')]
    simp
  · rw [World.cell?_setCell_other _ _ _ _ (fun h => e (by injection h)), hc j h', List.getElem_set_ne e]
/-- A byte, changed by some that is not 0. -/
theorem xor_other (b : UInt8) (c : Nat) (h : c < 256) (h0 : c ≠ 0) : ∃ x : UInt8, x ≠ b ∧ bits .xor .u8 (b.toNat : Int) (c : Int) = (x.toNat : Int) := by
  have hb := b.toNat_lt
  have hlt : b.toNat ^^^ c < 256 := Nat.xor_lt_two_pow (n := 8) (by omega) (by omega)
  refine ⟨UInt8.ofNat (b.toNat ^^^ c), fun e => ?_, ?_⟩
  · have := congrArg UInt8.toNat e
    rw [UInt8.toNat_ofNat', Nat.mod_eq_of_lt (by omega)] at this
    have h2 := congrArg (b.toNat ^^^ ·) this
    simp only [← Nat.xor_assoc, Nat.xor_self, Nat.zero_xor] at h2
    exact h0 h2
  · rw [u8_xor_nat _ _ (by omega) h, UInt8.toNat_ofNat', Nat.mod_eq_of_lt (by omega)]
end Go.Proofs.Ytieodancccefiaa
