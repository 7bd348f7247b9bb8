/- The statements' own lists of ints with room behind them, in which a mark stands (commonsbook's LentInts, StaysInts, copyInts). -/
import Derived.Test.YtoejfhjfphdamaaGreatLent
import Derived.Test.YtoejfhjfphdamaaGreatIntRow
namespace Go.Proofs.YtoejfhjfphdamaaGreat
open Go Go.RowKit
set_option maxRecDepth 100000
set_option maxHeartbeats 1000000
set_option linter.unusedSimpArgs false

theorem Lent.ints {w : World} {base : Nat} {v : Value} {l : List Int} {mark : List Value} (h : Lent w base v l.length (vals l) mark) : Ints w v l := by
  obtain ⟨g, cap, rfl, h1, h2, h3, h4, h5⟩ := h
  refine ⟨_, cap, rfl, by omega, h2, fun i hi => ⟨g, 0, rfl, h4, fun j u hu => ?_⟩⟩
  rcases j with _ | j
  · simp only [List.getElem?_cons_zero, Option.some.injEq] at hu
    subst hu
    rw [Nat.zero_add, Nat.mul_one, Nat.add_zero]
    exact h5 i _ (by rw [List.getElem?_append_left (by rw [vals_length]; exact hi)]; simp [vals, hi])
  · simp at hu
theorem lentInts_any (v : Value) (l : List Int) (w : World) (h : Ints w v l) (hn : l.length ≤ 1000000) :
    Calls Tryz.prog 7 #[v] w fun e w' => ∃ u, e = .returned u ∧ Lent w' w.heap.size u l.length (vals l) [.int .i64 (-77)] ∧ Below w.heap.size w w' := by
  obtain ⟨A, cap, rfl, hcap, hmax, _⟩ := h.one_
  have hlen : (l.length : Int) ≤ 1000000 := by omega
  have HM := Lib.hid (show maxLen = 9223372036854775807 by decide)
  go_enter Tryz.func7, Tryz.ntmps7
  obtain ⟨v1, w1, hr1, own1, gr1, at1⟩ := append_src (w := w) (tx := 27) elem_int (World.ownsRow_nil w w.heap.size 3 1) h.src 27 (by rw [HM.out]; omega) (by omega) (Nat.le_refl _)
  have hb1 : Below w.heap.size w w1 := (Below.refl _ _).grown gr1 (Nat.le_refl _) (by simp [Value.ownBlock])
  have own1' := own1.alloc (.cells #[Value.int .i64 (-77)] 3)
  have hsrc : Src Tryz.prog 1 27 (.slice (some ⟨w1.heap.size, 0, none⟩) 1 1) 1 [Value.int .i64 (-77)] (w1.alloc (.cells #[Value.int .i64 (-77)] 3)) :=
    src_slice Tryz.underlying27 rfl (fun _ => ⟨w1.heap.size, 0, rfl, fun j u hu => by
      rw [Nat.zero_add, (Sits.fresh w1 3 #[Value.int .i64 (-77)]).cell j]
      simpa using hu⟩) (by simp [Value.oneCell'])
  obtain ⟨v2, w2, hr2, own2, gr2, at2⟩ := append_src elem_int own1' hsrc 27 (by rw [HM.out]; omega) (by omega) (by have := hb1.size; simp; omega)
  obtain ⟨g, c2, rfl, hg, hg2⟩ := own2.form (by omega)
  simp only [Nat.zero_add, List.nil_append] at own2 hr2 at2
  obtain ⟨hc1, hc2, _, _⟩ := own_cap own2
  have hb2 : Below w.heap.size w w2 := (hb1.alloc hb1.size _).grown gr2 (by have := hb1.size; simp; omega) (fun k hk => (own1.lt k hk).1)
  have OWN := Lib.hid (own_cells own2)
  have HG := Lib.hid (And.intro hg hg2)
  have HB := Lib.hid hb2
  clear own1 own1' own2 gr1 gr2 at1 at2 hsrc hb1 hb2 hg hg2
  have hc3 : (l.length : Int) ≤ (c2 : Int) := by omega
  have HR1 := Lib.hid hr1
  have HR2 := Lib.hid hr2
  clear hr1 hr2
  go_wp2_with (first
    | (at_builtin; refine wpList_append_eq rfl (.const (.slice none 0 0)) (.tmp 3) 27 27 rfl _ _ _ rfl rfl HR1.out ?_)
    | (at_builtin; refine wpList_append_eq rfl (.tmp 4) (.tmp 5) 27 27 rfl _ _ _ rfl rfl HR2.out ?_))
  go_ret
  exact ⟨_, rfl, ⟨g, c2, rfl, hc1, hc2, HG.out.1, HG.out.2, OWN.out⟩, HB.out⟩
theorem staysInts_yes (u v : Value) (l : List Int) (base : Nat) (w : World) (hu : Lent w base u l.length (vals l) [.int .i64 (-77)]) (hv : Ints w v l) :
    Calls Tryz.prog 9 #[u, v] w fun e w' => e = .returned (.bool true) ∧ ∃ n, w' = w.drewN n := by
  have ht := hu.ints
  obtain ⟨g, cap, rfl, h1, h2, h3, h4, h5⟩ := hu
  have hm : w.cell? ⟨g, l.length, none⟩ = some (.int .i64 (-77)) := h5 l.length _ (by rw [List.getElem?_append_right (by simp [vals])]; simp [vals])
  have hcap : (l.length : Int) + 1 ≤ (cap : Int) := by omega
  have hsame := sameInts_yes _ v l w ht hv
  have HS := Lib.hid hsame
  clear hsame h5 hv ht
  go_enter Tryz.func9, Tryz.ntmps9
  go_wp2_with fail
  refine HS.out.mono ?_
  rintro e w' ⟨rfl, n, rfl⟩
  go_wp2
  go_ret
  exact ⟨rfl, n, rfl⟩
theorem copyInts_any (v : Value) (l : List Int) (w : World) (h : Ints w v l) (hn : l.length ≤ 1000000) :
    Calls Tryz.prog 26 #[v] w fun e w' => ∃ u, e = .returned u ∧ IRow w' w.heap.size u l ∧ Below w.heap.size w w' := by
  obtain ⟨A, cap, rfl, hcap, hmax, _⟩ := h.one_
  have HM := Lib.hid (show maxLen = 9223372036854775807 by decide)
  obtain ⟨v1, w1, hr1, own1, gr1, at1⟩ := append_src (w := w) (tx := 27) elem_int (World.ownsRow_nil w w.heap.size 3 1) h.src 27 (by rw [HM.out]; omega) (by omega) (Nat.le_refl _)
  have hb1 : Below w.heap.size w w1 := (Below.refl _ _).grown gr1 (Nat.le_refl _) (by simp [Value.ownBlock])
  rw [Nat.zero_add, List.nil_append] at own1
  have OWN := Lib.hid (RowAt.ofOwn own1)
  have HB := Lib.hid hb1
  have HR1 := Lib.hid hr1
  clear own1 gr1 at1 hb1 hr1
  go_enter Tryz.func26, Tryz.ntmps26
  go_wp2_with (at_builtin; refine wpList_append_eq rfl (.const (.slice none 0 0)) (.tmp 3) 27 27 rfl _ _ _ rfl rfl HR1.out ?_)
  go_ret
  exact ⟨_, rfl, OWN.out, HB.out⟩
end Go.Proofs.YtoejfhjfphdamaaGreat
