/- Package ring: Push of a nil Ring[int]; lists that were built as Push's arguments. -/
import Derived.Test.YtbgogbelnipfdaaRingDI
namespace Go.Proofs.Ytbgogbelnipfdaa
open Go Go.RowKit
set_option maxRecDepth 100000
set_option maxHeartbeats 1000000
set_option linter.unusedSimpArgs false

theorem pushI_nil (A : Option Addr) (n cap : Nat) (h1 : n ≤ cap) (h2 : (cap : Int) ≤ 9223372036854775807) (w : World) :
    Calls Try.prog 23 #[.pointer none, .slice A n cap] w fun e w' => e = .returned (.int .i64 0) ∧ w = w' := by
  have HM : Hid (min (n : Int) 0 = 0) := Lib.hid (by omega)
  have hn : (n : Int) ≤ 9223372036854775807 := by omega
  go_enter Try.func23, Try.ntmps23
  go_wp2_with (first | (go_at_call 25; refine (roomI_nil w).mono ?_; rintro e w' ⟨rfl, rfl⟩) | ((with_reducible refine at_list ?_); refine wpList_min_eq rfl (.tmp 9) (.tmp 11) _ rfl _ _ _ _ _ rfl rfl HM.out ?_))
  go_loopw [17] (fun i wr => i = .int .i64 0 ∧ wr = w) (fun i _ => 0)
  case atStart => exact ⟨rfl, rfl⟩
  case round =>
    obtain ⟨rfl, rfl⟩ := hrel
    go_wp2
    go_ret
    exact ⟨rfl, rfl⟩
theorem sliceI_sits {w : World} {b t : Nat} {cs : Array Value} (h : Sits w b t cs) (xs : List Int) (cap : Nat) (h1 : xs.length ≤ cap) (h2 : (cap : Int) ≤ 9223372036854775807) (hc : ∀ i (_ : i < xs.length), cs[i]? = some (Value.int .i64 (xs[i]))) :
    SliceAt 1 (fun x => [(Value.int .i64 x)]) w (.slice (some ⟨b, 0, none⟩) xs.length cap) xs :=
  ⟨_, cap, rfl, h1, h2, fun i hi => ⟨b, 0, rfl, h.lt, fun j u hu => by
    rcases j with _ | j
    · simp only [List.getElem?_cons_zero, Option.some.injEq] at hu
      subst hu
      rw [Nat.mul_one, Nat.add_zero, Nat.zero_add, h.cell i]
      exact hc i hi
    · simp at hu⟩⟩
/-- The first value, or the zero value. -/
def topI : List Int → Value
  | [] => (Value.int .i64 0)
  | x :: _ => (Value.int .i64 x)
/-- Pop, whatever the ring holds. -/
theorem popI_any (p g room : Nat) (l : List Int) (w : World) (h : RingI w p g room l) :
    Calls Try.prog 26 #[.pointer (some ⟨p, 0, none⟩)] w fun e w' => e = .returned (.tuple #[topI l, .bool (!l.isEmpty)]) ∧ RingI w' p g room l.tail ∧ Two p g w w' := by
  cases l with
  | nil =>
    refine (popI_empty p g room w h).mono ?_
    rintro e w' ⟨rfl, rfl⟩
    exact ⟨rfl, h, Two.refl _ _ _⟩
  | cons x l =>
    refine (popI_cons p g room x l w h).mono ?_
    rintro e w' ⟨rfl, hR, hT⟩
    exact ⟨rfl, hR, hT⟩
/-- Is there a value at place k? -/
def inR (l : List Int) (k : Int) : Bool := decide (0 ≤ k) && decide (k < (l.length : Int))
def setAt (l : List Int) (k x : Int) : List Int := if inR l k then l.set k.toNat x else l
def getAt (l : List Int) (k : Int) : Int := if inR l k then l.getD k.toNat 0 else 0
theorem setAt_length (l : List Int) (k x : Int) : (setAt l k x).length = l.length := by unfold setAt; split <;> simp
theorem setAt_get (l : List Int) (k x : Int) (i : Nat) (hi : i < l.length) : (setAt l k x)[i]'(by rw [setAt_length]; exact hi) = if (i : Int) = k then x else l[i] := by
  have h : (setAt l k x)[i]? = some (if (i : Int) = k then x else l[i]) := by
    unfold setAt
    split
    · rename_i h
      simp only [inR, Bool.and_eq_true, decide_eq_true_eq] at h
      rw [List.getElem?_set]
      by_cases e : k.toNat = i
      · have e2 : (i : Int) = k := by omega
        simp [e, e2, hi]
      · have e2 : ¬ (i : Int) = k := by omega
        simp [e, e2, hi]
    · rename_i h
      simp only [inR, Bool.and_eq_true, decide_eq_true_eq] at h
      have e2 : ¬ (i : Int) = k := by omega
      simp [e2, hi]
  obtain ⟨h1, h2⟩ := List.getElem?_eq_some_iff.1 h
  exact h2
theorem peekI_any (p g room : Nat) (l : List Int) (k : Int) (w : World) (h : RingI w p g room l) :
    Calls Try.prog 31 #[.pointer (some ⟨p, 0, none⟩), .int .i64 k] w fun e w' => e = .returned (.tuple #[.int .i64 (getAt l k), .bool (inR l k)]) ∧ ∃ n, w' = w.drewN n := by
  by_cases hk : 0 ≤ k ∧ k < l.length
  · obtain ⟨i, rfl⟩ := Int.eq_ofNat_of_zero_le hk.1
    have hi : inR l (i : Int) = true := by simp [inR]; omega
    have hl : i < l.length := by omega
    refine (peekI_in p g room l i w h hl).mono ?_
    rintro e w' ⟨rfl, n, rfl⟩
    exact ⟨by simp [getAt, hi, hl], n, rfl⟩
  · have hi : inR l k = false := by simp [inR]; omega
    refine (peekI_out p g room l k w h (by omega)).mono ?_
    rintro e w' ⟨rfl, rfl⟩
    exact ⟨by simp [getAt, hi], 0, rfl⟩
end Go.Proofs.Ytbgogbelnipfdaa
