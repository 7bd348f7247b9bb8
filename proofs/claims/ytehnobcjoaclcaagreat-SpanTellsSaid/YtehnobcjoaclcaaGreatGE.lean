/- Slices of ints and of bools that come in, as lists; lists of ints that are alike (commonsbook's SameInts). Lists of ints of the call's own: rows (cut at their heads or not), and what is appended to them. A list of int values of the call's own: one more is appended; its values are read. -/
import Derived.Test.YtehnobcjoaclcaaGreatGD
import Derived.BigQuiet
import Derived.Test.YtehnobcjoaclcaaGreatGB
namespace Go.Proofs.YtehnobcjoaclcaaGreat
open Go Go.RowKit Go.ChangeShapes Go.WideShapes
set_option maxRecDepth 100000
set_option maxHeartbeats 1000000

/-- A slice of ints. -/
abbrev Ints := SliceAt 1 (fun x : Int => [Value.int .i64 x])
def i64ok (x : Int) : Prop := -9223372036854775808 ≤ x ∧ x ≤ 9223372036854775807
theorem ints_open {H : Type} {enc : TypeId × Value → H} {w : World} {base : Nat} {r : Reach} {v : Value} {d : DataW H} {p : List MemPlace} (hv : Value.okWide Tryz.prog w r base 55 v)
    (h : DataW.Trod enc Tryz.prog w 0 (fun _ => true) true 55 v d p) : ∃ l : List Int, (∀ x ∈ l, i64ok x) ∧ Ints w v l :=
  slice_open Tryz.underlying55 (by kernel_rfl) (by omega) (fun cs n sp held x ht hl => by
    obtain ⟨s, e, _, hs⟩ := DataW.trod_int Tryz.underlying3 ht
    exact ⟨s, by have := bounds_i64 hs; unfold i64ok; omega, e⟩) hv h
theorem SliceAt.one_ {α : Type} {f : α → Value} {w : World} {v : Value} {l : List α} (h : SliceAt 1 (fun x => [f x]) w v l) : ∃ A cap, v = .slice A l.length cap ∧ l.length ≤ cap ∧ (cap : Int) ≤ 9223372036854775807 ∧
    ∀ i (hi : i < l.length), ∃ b o, A = some ⟨b, o, none⟩ ∧ b < w.heap.size ∧ w.cell? ⟨b, o + i, none⟩ = some (f l[i]) := by
  obtain ⟨A, cap, e, h1, h2, h3⟩ := h
  refine ⟨A, cap, e, h1, h2, fun i hi => ?_⟩
  obtain ⟨b, o, rfl, hlt, hc⟩ := h3 i hi
  have := hc 0 _ rfl
  rw [Nat.mul_one, Nat.add_zero] at this
  exact ⟨b, o, rfl, hlt, this⟩
theorem sameInts_yes (u v : Value) (l : List Int) (w : World) (hu : Ints w u l) (hv : Ints w v l) :
    Calls Tryz.prog 106 #[u, v] w fun e w' => e = .returned (.bool true) ∧ ∃ n, w' = w.drewN n := by
  obtain ⟨A, ca, rfl, ha1, ha2, ha3⟩ := hu.one_
  obtain ⟨B, cb, rfl, hb1, hb2, hb3⟩ := hv.one_
  have hlen : (l.length : Int) ≤ 9223372036854775807 := by omega
  have HA := Lib.hid ha3
  have HB := Lib.hid hb3
  clear ha3 hb3 hu hv
  go_enter Tryz.func106, Tryz.ntmps106
  go_wp2
  go_loopw [5] (fun i wr => ∃ k : Nat, k ≤ l.length ∧ i = .int .i64 k ∧ ∃ n, wr = w.drewN n) (fun i _ => l.length - (intOf i).toNat)
  case atStart => exact ⟨0, by omega, rfl, 0, rfl⟩
  case round =>
    obtain ⟨k, hk, rfl, n, rfl⟩ := hrel
    by_cases hlt : k < l.length
    · obtain ⟨b, o, rfl, _, hcb⟩ := HA.out k hlt
      obtain ⟨b', o', rfl, _, hcb'⟩ := HB.out k hlt
      go_wp2
      go_quiet (fail)
      go_wp2
      go_roundw
      case rel => exact ⟨k + 1, by omega, by go_num, _, rfl⟩
      case measure => simp [intOf]; omega
    · go_wp2
      go_ret
      exact ⟨rfl, n, rfl⟩
end Go.Proofs.YtehnobcjoaclcaaGreat
namespace Go.Proofs.YtehnobcjoaclcaaGreat
open Go Go.RowKit
set_option maxRecDepth 100000
theorem info_int : (Tryz.prog.info? 3).map (fun i => (i.zero, i.size, i.bytes)) = some (some (.int .i64 0), 1, 8) := by kernel_rfl
theorem elem_int : Elem Tryz.prog 55 3 (.int .i64 0) 1 8 := ⟨Tryz.underlying55, info_int, rfl, by omega⟩
def vals (l : List Int) : List Value := l.map fun x => Value.int .i64 x
theorem vals_length (l : List Int) : (vals l).length = l.length := by simp [vals]
theorem vals_append (a b : List Int) : vals (a ++ b) = vals a ++ vals b := by simp [vals]
theorem vals_one (l : List Int) : ∀ u ∈ vals l, u.oneCell' = true := by
  intro u hu
  obtain ⟨s, _, rfl⟩ := List.mem_map.1 hu
  rfl
/-- A list of ints of the call's own. -/
abbrev IRow (w : World) (base : Nat) (v : Value) (l : List Int) : Prop := RowAt w base 3 1 v l.length (vals l)
theorem IRow.ints {w : World} {base : Nat} {v : Value} {l : List Int} (h : IRow w base v l) : Ints w v l := RowAt.slice h
theorem IRow.src {w : World} {base : Nat} {v : Value} {l : List Int} (h : IRow w base v l) : Src Tryz.prog 1 55 v l.length (vals l) w := src_rowAt Tryz.underlying55 h (vals_one l)
theorem Ints.src {w : World} {v : Value} {l : List Int} (h : Ints w v l) : Src Tryz.prog 1 55 v l.length (vals l) w := by
  obtain ⟨A, cap, rfl, h1, h2, h3⟩ := h.one_
  refine src_slice Tryz.underlying55 (by simp [vals]) (fun hp => ?_) (vals_one l)
  obtain ⟨b, o, hA, _, _⟩ := h3 0 hp
  refine ⟨b, o, hA, fun j u hu => ?_⟩
  have hj : j < l.length := by simpa [vals] using (List.getElem?_eq_some_iff.1 hu).1
  obtain ⟨b', o', hA', _, hc⟩ := h3 j hj
  rw [hA] at hA'
  simp only [Option.some.injEq, Addr.mk.injEq, and_true] at hA'
  obtain ⟨rfl, rfl⟩ := hA'
  rw [hc, ← hu]
  simp [vals, hj]
theorem Sits.src {w : World} {b t : Nat} {l : List Int} (h : Sits w b t (vals l).toArray) : Src Tryz.prog 1 55 (.slice (some ⟨b, 0, none⟩) l.length l.length) l.length (vals l) w :=
  src_slice Tryz.underlying55 (by simp [vals]) (fun _ => ⟨b, 0, rfl, fun j u hu => by
    rw [Nat.zero_add, h.cell j]
    simpa using hu⟩) (vals_one l)
theorem IRow.cut {w : World} {base : Nat} {v : Value} {x : Int} {l : List Int} (h : IRow w base v (x :: l)) :
    ∃ g o cap, v = .slice (some ⟨g, o, none⟩) (l.length + 1) cap ∧ l.length + 1 ≤ cap ∧ (cap : Int) ≤ 9223372036854775807 ∧ w.cell? ⟨g, o, none⟩ = some (.int .i64 x) ∧ IRow w base (.slice (some ⟨g, o + 1, none⟩) l.length (cap - 1)) l := by
  obtain ⟨g, o, cap, rfl, h1, h2, h3⟩ := h.tail 1 (by simp) (by simp)
  obtain ⟨A, cap', hv, _, _, _, hc⟩ := h.form
  simp only [Value.slice.injEq, true_and] at hv
  obtain ⟨rfl, rfl⟩ := hv
  refine ⟨g, o, cap, rfl, by simpa using h1, h2, ?_, ?_⟩
  · have := (hc g o rfl).2.2.1 0 _ rfl
    rwa [Nat.add_zero] at this
  · simp only [List.length_cons, Nat.add_sub_cancel, Nat.one_mul, vals, List.map_cons, List.drop_succ_cons, List.drop_zero] at h3
    exact h3
/-- The last one, where there is no room behind it: the address stays. -/
theorem IRow.cut1 {w : World} {base : Nat} {g o : Nat} {x : Int} (h : IRow w base (.slice (some ⟨g, o, none⟩) 1 1) [x]) : IRow w base (.slice (some ⟨g, o, none⟩) 0 0) [] := by
  refine ⟨by simp [vals], ?_⟩
  rcases h.2 with ⟨hn, _⟩ | ⟨g', o', cap, cur, e, h0, h1, h2, h3, h4, h5⟩
  · cases hn
  · simp only [Value.slice.injEq, Option.some.injEq, Addr.mk.injEq, and_true] at e
    obtain ⟨⟨rfl, rfl⟩, _, rfl⟩ := e
    exact .inr ⟨g, o, 0, cur, rfl, h0, h1, by simp, by simp, by omega, by simp [vals]⟩
end Go.Proofs.YtehnobcjoaclcaaGreat
namespace Go.Proofs.YtehnobcjoaclcaaGreat
open Go Go.RowKit
set_option maxRecDepth 100000

theorem pushI_one {W : World} {base : Nat} {v : Value} {l : List Int} (h : IRow W base v l) (x : Int) (hb : base ≤ W.heap.size) (hl : l.length ≤ 1000000) (ty : TypeId) :
    ∃ A cap W', (Builtin.append_ #[55, 55] ty #[v, .slice (some ⟨W.heap.size, 0, none⟩) 1 1]).run Tryz.prog (W.alloc (.cells #[(Value.int .i64 x)] 3)) = .ok (.slice A ((l.length + 1 : Nat)) cap) W' ∧
      IRow W' base (.slice A ((l.length + 1 : Nat)) cap) (l ++ [x]) ∧ Below base W W' ∧ Many (fun k => v.ownBlock = some k) W W' ∧ l.length + 1 ≤ cap ∧ (cap : Int) ≤ 9223372036854775807 := by
  have hmx : maxLen = 9223372036854775807 := by decide
  have hal : Below W.heap.size W (W.alloc (.cells #[(Value.int .i64 x)] 3)) := (Below.refl _ W).alloc (Nat.le_refl _) _
  have h2 := h.below hal
  have hsrc : Src Tryz.prog 1 55 (.slice (some ⟨W.heap.size, 0, none⟩) 1 1) 1 [(Value.int .i64 x)] (W.alloc (.cells #[(Value.int .i64 x)] 3)) := src_slice Tryz.underlying55 rfl (fun _ => ⟨W.heap.size, 0, rfl, fun j u hu => by
    rw [Nat.zero_add, (Sits.fresh W 3 #[(Value.int .i64 x)]).cell j]
    simpa using hu⟩) (by simp [Value.oneCell'])
  obtain ⟨v3, w3, hr3, hX4, gr3, at3⟩ := appendAt_src elem_int h2 hsrc ty (by omega) (by omega) (by rw [World.size_alloc]; omega)
  have hX5 : IRow w3 base v3 (l ++ [x]) := by
    have e1 : (l ++ [x]).length = l.length + 1 := by simp
    have e2 : vals (l ++ [x]) = vals l ++ [(Value.int .i64 x)] := by simp [vals]
    show RowAt w3 base 3 1 v3 (l ++ [x]).length (vals (l ++ [x]))
    rw [e1, e2]
    exact hX4
  obtain ⟨A3, c3, hv3, h31, h32, _, _⟩ := hX5.form
  have e1 : (l ++ [x]).length = l.length + 1 := by simp
  rw [e1] at hv3 h31
  subst hv3
  have hB : Below base W w3 := ((Below.refl base W).alloc hb _).grown gr3 (by rw [World.size_alloc]; omega) (fun k hk => (h2.lt k hk).1)
  exact ⟨A3, c3, w3, hr3, hX5, hB, ((Many.refl _ W).alloc _).grown gr3 fun b hb => hb, h31, h32⟩
theorem rowI_at {W : World} {base : Nat} {v : Value} {l : List Int} (h : IRow W base v l) : ∃ A cap, v = .slice A l.length cap ∧ l.length ≤ cap ∧ (cap : Int) ≤ 9223372036854775807 ∧ ∀ i (hi : i < l.length), ∃ b o, A = some ⟨b, o, none⟩ ∧ W.cell? ⟨b, o + i, none⟩ = some (Value.int .i64 (l[i])) := by
  obtain ⟨A, cap, hv, h1, h2, h3⟩ := (IRow.ints h).one_
  exact ⟨A, cap, hv, h1, h2, fun i hi => let ⟨b, o, e, _, hc⟩ := h3 i hi; ⟨b, o, e, hc⟩⟩
end Go.Proofs.YtehnobcjoaclcaaGreat
