/- Package ring: Push of a nil Ring[string]; lists that were built as Push's arguments. -/
import Derived.Test.YtffgdmdliddlpaaRingDS
namespace Go.Proofs.Ytffgdmdliddlpaa
open Go Go.RowKit
set_option maxRecDepth 100000
set_option maxHeartbeats 1000000
set_option linter.unusedSimpArgs false

theorem pushS_nil (A : Option Addr) (n cap : Nat) (h1 : n ≤ cap) (h2 : (cap : Int) ≤ 9223372036854775807) (w : World) :
    Calls Try.prog 12 #[.pointer none, .slice A n cap] w fun e w' => e = .returned (.int .i64 0) ∧ w = w' := by
  have HM : Hid (min (n : Int) 0 = 0) := Lib.hid (by omega)
  have hn : (n : Int) ≤ 9223372036854775807 := by omega
  go_enter Try.func12, Try.ntmps12
  go_wp2_with (first | (go_at_call 36; refine (roomS_nil w).mono ?_; rintro e w' ⟨rfl, rfl⟩) | ((with_reducible refine at_list ?_); refine wpList_min_eq rfl (.tmp 9) (.tmp 11) _ rfl _ _ _ _ _ rfl rfl HM.out ?_))
  go_loopw [17] (fun i wr => i = .int .i64 0 ∧ wr = w) (fun i _ => 0)
  case atStart => exact ⟨rfl, rfl⟩
  case round =>
    obtain ⟨rfl, rfl⟩ := hrel
    go_wp2
    go_ret
    exact ⟨rfl, rfl⟩
theorem sliceS_sits {w : World} {b t : Nat} {cs : Array Value} (h : Sits w b t cs) (xs : List (List UInt8)) (cap : Nat) (h1 : xs.length ≤ cap) (h2 : (cap : Int) ≤ 9223372036854775807) (hc : ∀ i (_ : i < xs.length), cs[i]? = some (Value.string (str (xs[i])))) :
    SliceAt 1 (fun x => [(Value.string (str x))]) w (.slice (some ⟨b, 0, none⟩) xs.length cap) xs :=
  ⟨_, cap, rfl, h1, h2, fun i hi => ⟨b, 0, rfl, h.lt, fun j u hu => by
    rcases j with _ | j
    · simp only [List.getElem?_cons_zero, Option.some.injEq] at hu
      subst hu
      rw [Nat.mul_one, Nat.add_zero, Nat.zero_add, h.cell i]
      exact hc i hi
    · simp at hu⟩⟩
/-- The first value, or the zero value. -/
def topS : List (List UInt8) → Value
  | [] => (Value.string ⟨#[]⟩)
  | x :: _ => (Value.string (str x))
/-- Pop, whatever the ring holds. -/
theorem popS_any (p g room : Nat) (l : List (List UInt8)) (w : World) (h : RingS w p g room l) :
    Calls Try.prog 13 #[.pointer (some ⟨p, 0, none⟩)] w fun e w' => e = .returned (.tuple #[topS l, .bool (!l.isEmpty)]) ∧ RingS w' p g room l.tail ∧ Two p g w w' := by
  cases l with
  | nil =>
    refine (popS_empty p g room w h).mono ?_
    rintro e w' ⟨rfl, rfl⟩
    exact ⟨rfl, h, Two.refl _ _ _⟩
  | cons x l =>
    refine (popS_cons p g room x l w h).mono ?_
    rintro e w' ⟨rfl, hR, hT⟩
    exact ⟨rfl, hR, hT⟩
end Go.Proofs.Ytffgdmdliddlpaa
