/- The statements of chapter 6: their own first calls of spans. -/
import Derived.Test.YtehnobcjoaclcaaGreatSpanF
namespace Go.Proofs.YtehnobcjoaclcaaGreat
open Go Go.RowKit SpanP
set_option maxRecDepth 100000
set_option maxHeartbeats 1000000
set_option linter.unusedSimpArgs false

theorem alive6_set : SetOf [(1, 5)] (In [(3, 5), (1, 3), (9, 9)]) := by
  refine ⟨⟨fun s hs => ?_, List.pairwise_singleton _ _⟩, fun b => ?_⟩
  · rw [List.mem_singleton.1 hs]; decide
  · rw [in_one, in_cons, in_cons, in_one]
    unfold Has Ok
    simp only
    omega
theorem alive6_any (w : World) : Calls Tryz.prog 4 #[] w fun e w' => e = .returned (.bool true) ∧ Below w.heap.size w w' := by
  have hB := (Below.refl w.heap.size w).alloc (Nat.le_refl _) (.cells #[.int .i64 3, .int .i64 5, .int .i64 1, .int .i64 3, .int .i64 9, .int .i64 9] 43)
  have hS := Sits.fresh w 43 #[.int .i64 3, .int .i64 5, .int .i64 1, .int .i64 3, .int .i64 9, .int .i64 9]
  obtain ⟨p1, hp1⟩ : ∃ p, p = w.heap.size := ⟨_, rfl⟩
  obtain ⟨w1, hw1⟩ : ∃ w', w' = w.alloc (.cells #[.int .i64 3, .int .i64 5, .int .i64 1, .int .i64 3, .int .i64 9, .int .i64 9] 43) := ⟨_, rfl⟩
  rw [← hw1] at hB hS
  rw [← hp1] at hS
  have hk : Blk w1 p1 3 [(3, 5), (1, 3), (9, 9)] := ⟨_, hS, rfl, fun i hi => by
    rcases i with _ | _ | _ | i
    · exact ⟨rfl, rfl⟩
    · exact ⟨rfl, rfl⟩
    · exact ⟨rfl, rfl⟩
    · simp at hi; omega⟩
  have hno := norm_any _ _ w1 (hk.spans (by simp) (by omega)) (by simp)
  have HB1 := Lib.hid hB
  clear hB hS hk
  go_enter Tryz.func4, Tryz.ntmps4
  go_wp2_with fail
  rw [← hw1, ← hp1]
  clear hw1 hp1
  refine hno.mono ?_
  rintro e w2 ⟨m, g, cap, rfl, hset, hg, hblk, h1, h2, h3, hb⟩
  obtain rfl : m = [(1, 5)] := hset.eq alive6_set fun _ => Iff.rfl
  have hcap : (cap : Int) ≤ 1000 := by omega
  have h20 : 1 ≤ cap := h2
  have hm : ∀ W : World, Calls Tryz.prog 9 #[.agg #[.int .i64 1, .int .i64 5], .agg #[.int .i64 4, .int .i64 9]] W fun e w' => e = .returned (.tuple #[.agg #[.int .i64 4, .int .i64 5], .bool true]) ∧ Below W.heap.size W w' := meet_any (1, 5) (4, 9)
  have hhas : ∀ W : World, Calls Tryz.prog 8 #[.agg #[.int .i64 4, .int .i64 5], .int .i64 4] W fun e w' => e = .returned (.bool true) ∧ ∃ q os, w' = Sort.grow (W.drewN q) os := has_any (4, 5) 4
  have hlen : ∀ W : World, Calls Tryz.prog 7 #[.agg #[.int .i64 4, .int .i64 5]] W fun e w' => e = .returned (.int .i64 1) ∧ ∃ q os, w' = Sort.grow (W.drewN q) os := len_any (4, 5) (by decide)
  have HB2 := Lib.hid (HB1.out.trans (hb.mono HB1.out.size))
  have HK := Lib.hid hblk
  clear hno hset hblk h1 hb h3 hg h2
  go_wp2_with fail
  refine (hm _).mono ?_
  rintro e w3 ⟨rfl, hb⟩
  have hb4 : Below w2.heap.size w2 (w3.alloc (.cells #[.int .i64 4, .int .i64 5] 43)) := hb.alloc hb.size _
  have s4 := Sits.fresh w3 43 #[.int .i64 4, .int .i64 5]
  obtain ⟨p4, hp4⟩ : ∃ p, p = w3.heap.size := ⟨_, rfl⟩
  obtain ⟨w4, hw4⟩ : ∃ w', w' = w3.alloc (.cells #[.int .i64 4, .int .i64 5] 43) := ⟨_, rfl⟩
  rw [← hw4] at hb4 s4
  rw [← hp4] at s4
  have hk4 := HK.out.below hb4
  have HB4 := Lib.hid (HB2.out.trans (hb4.mono HB2.out.size))
  have S4 := Lib.hid s4
  have c01 : w4.cell? ⟨g, 0, none⟩ = some (.int .i64 1) ∧ w4.cell? ⟨g, 1, none⟩ = some (.int .i64 5) := by
    obtain ⟨cur, hc, hz, hat⟩ := hk4
    rw [hc.cell, hc.cell]
    exact hat 0 (by simp)
  obtain ⟨c0, c1⟩ := c01
  rw [hw4] at c0 c1
  clear hb hb4 s4 hk4 hm
  go_wp2_with fail
  rw [← hw4, ← hp4]
  clear c0 c1 hw4 hp4
  refine (hhas _).mono ?_
  rintro e w5 ⟨rfl, hg5⟩
  have s5 := S4.out.below' (grown_below hg5)
  have HB5 := Lib.hid (HB4.out.trans ((grown_below hg5).mono HB4.out.size))
  have c2 := s5.cell 0
  have c3 := s5.cell 1
  simp at c2 c3
  clear hg5 s5 hhas
  go_wp2_with fail
  refine (hlen _).mono ?_
  rintro e w6 ⟨rfl, hg6⟩
  have HB6 := Lib.hid (HB5.out.trans ((grown_below hg6).mono HB5.out.size))
  clear hg6 hlen c2 c3
  go_wp2
  go_ret
  exact ⟨rfl, HB6.out⟩
end Go.Proofs.YtehnobcjoaclcaaGreat
