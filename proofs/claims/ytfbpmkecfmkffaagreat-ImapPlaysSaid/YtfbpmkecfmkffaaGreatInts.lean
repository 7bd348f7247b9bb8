/- Slices of ints and of bools that come in, as lists; lists of ints that are alike (commonsbook's SameInts). -/
import Derived.Test.YtfbpmkecfmkffaaGreatGD
import Derived.BigQuiet
namespace Go.Proofs.YtfbpmkecfmkffaaGreat
open Go Go.RowKit Go.ChangeShapes Go.WideShapes
set_option maxRecDepth 100000
set_option maxHeartbeats 1000000

/-- A slice of ints. -/
abbrev Ints := SliceAt 1 (fun x : Int => [Value.int .i64 x])
def i64ok (x : Int) : Prop := -9223372036854775808 ≤ x ∧ x ≤ 9223372036854775807
theorem ints_open {H : Type} {enc : TypeId × Value → H} {w : World} {base : Nat} {r : Reach} {v : Value} {d : DataW H} {p : List MemPlace} (hv : Value.okWide Tryz.prog w r base 120 v)
    (h : DataW.Trod enc Tryz.prog w 0 (fun _ => true) true 120 v d p) : ∃ l : List Int, (∀ x ∈ l, i64ok x) ∧ Ints w v l :=
  slice_open Tryz.underlying120 (by kernel_rfl) (by omega) (fun cs n sp held x ht hl => by
    obtain ⟨s, e, _, hs⟩ := DataW.trod_int Tryz.underlying3 ht
    exact ⟨s, by have := bounds_i64 hs; unfold i64ok; omega, e⟩) hv h
theorem SliceAt.one_ {α : Type} {f : α → Value} {w : World} {v : Value} {l : List α} (h : SliceAt 1 (fun x => [f x]) w v l) : ∃ A cap, v = .slice A l.length cap ∧ l.length ≤ cap ∧ (cap : Int) ≤ 9223372036854775807 ∧
    ∀ i (hi : i < l.length), ∃ b o, A = some ⟨b, o, none⟩ ∧ b < w.heap.size ∧ w.cell? ⟨b, o + i, none⟩ = some (f l[i]) := by
  obtain ⟨A, cap, e, h1, h2, h3⟩ := h
  refine ⟨A, cap, e, h1, h2, fun i hi => ?_⟩
  obtain ⟨b, o, rfl, hlt, hc⟩ := h3 i hi
  have := hc 0 _ rfl
  rw [Nat.mul_one, Nat.add_zero] at this
  exact ⟨b, o, rfl, hlt, this⟩
theorem sameInts_yes (u v : Value) (l : List Int) (w : World) (hu : Ints w u l) (hv : Ints w v l) :
    Calls Tryz.prog 104 #[u, v] w fun e w' => e = .returned (.bool true) ∧ ∃ n, w' = w.drewN n := by
  obtain ⟨A, ca, rfl, ha1, ha2, ha3⟩ := hu.one_
  obtain ⟨B, cb, rfl, hb1, hb2, hb3⟩ := hv.one_
  have hlen : (l.length : Int) ≤ 9223372036854775807 := by omega
  have HA := Lib.hid ha3
  have HB := Lib.hid hb3
  clear ha3 hb3 hu hv
  go_enter Tryz.func104, Tryz.ntmps104
  go_wp2
  go_loopw [5] (fun i wr => ∃ k : Nat, k ≤ l.length ∧ i = .int .i64 k ∧ ∃ n, wr = w.drewN n) (fun i _ => l.length - (intOf i).toNat)
  case atStart => exact ⟨0, by omega, rfl, 0, rfl⟩
  case round =>
    obtain ⟨k, hk, rfl, n, rfl⟩ := hrel
    by_cases hlt : k < l.length
    · obtain ⟨b, o, rfl, _, hcb⟩ := HA.out k hlt
      obtain ⟨b', o', rfl, _, hcb'⟩ := HB.out k hlt
      go_wp2
      go_quiet (fail)
      go_wp2
      go_roundw
      case rel => exact ⟨k + 1, by omega, by go_num, _, rfl⟩
      case measure => simp [intOf]; omega
    · go_wp2
      go_ret
      exact ⟨rfl, n, rfl⟩
end Go.Proofs.YtfbpmkecfmkffaaGreat
