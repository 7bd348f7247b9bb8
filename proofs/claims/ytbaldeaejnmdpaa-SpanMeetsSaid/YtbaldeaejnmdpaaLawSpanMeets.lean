/- SpanMeets: two spans meet just where some block is in both; what they have in common is in both, and is all of it; whatever the spans and the block are. -/
import Derived.Test.YtbaldeaejnmdpaaSAlive
import Derived.Test.YtbaldeaejnmdpaaTail
import Derived.OpenShut
import Derived.ChangeOld
namespace Go.Proofs.Ytbaldeaejnmdpaa
open Go Go.RowKit Go.ChangeShapes Go.WideShapes SpanP
set_option maxRecDepth 100000
set_option maxHeartbeats 4000000
set_option linter.unusedSimpArgs false

theorem lenS_meet {s t m : S} (h : meet s t = some m) : lenS m ≤ lenS s ∧ lenS m ≤ lenS t := by
  obtain ⟨h1, h2, h3⟩ := meet_some h
  have hs := ((h3 m.1).1 ⟨h1, Int.le_refl _, h1.2⟩)
  unfold lenS
  rw [if_pos h1, if_pos hs.1.1, if_pos hs.2.1]
  have h4 : m.1 = max s.1 t.1 := by rw [h2]
  have h5 : m.2 = min s.2 t.2 := by rw [h2]
  omega
theorem meet_self (s : S) : meet s s = if Ok s then some s else none := by
  unfold meet
  rw [Int.max_self, Int.min_self]
  by_cases h : Ok s <;> simp [h]
theorem meets_law (a1 a2 b1 b2 c : Int) (ha : a2 ≤ top) (hb : b2 ≤ top) (w : World) : Calls Try.prog 6 #[.agg #[.int .i64 a1, .int .i64 a2], .agg #[.int .i64 b1, .int .i64 b2], .int .i64 c] w fun e w' => e = .returned (.bool true) ∧ Below w.heap.size w w' := by
  have hAl := fun W : World => alive6_any W
  have gV : ∀ W : World, Calls Try.prog 15 #[.agg #[.int .i64 a1, .int .i64 a2]] W fun e w' => e = .returned (.bool (decide (Ok (a1, a2)))) ∧ Below W.heap.size W w' := fun W => (valid_any (a1, a2) W).mono fun e w' ⟨h1, h2⟩ => ⟨h1, grown_below h2⟩
  have gHa : ∀ W : World, Calls Try.prog 16 #[.agg #[.int .i64 a1, .int .i64 a2], .int .i64 c] W fun e w' => e = .returned (.bool (decide (Has (a1, a2) c))) ∧ Below W.heap.size W w' := fun W => (has_any (a1, a2) c W).mono fun e w' ⟨h1, h2⟩ => ⟨h1, grown_below h2⟩
  have gHb : ∀ W : World, Calls Try.prog 16 #[.agg #[.int .i64 b1, .int .i64 b2], .int .i64 c] W fun e w' => e = .returned (.bool (decide (Has (b1, b2) c))) ∧ Below W.heap.size W w' := fun W => (has_any (b1, b2) c W).mono fun e w' ⟨h1, h2⟩ => ⟨h1, grown_below h2⟩
  have gM1 : ∀ W : World, Calls Try.prog 19 #[.agg #[.int .i64 a1, .int .i64 a2], .agg #[.int .i64 b1, .int .i64 b2]] W fun e w' => e = .returned (meetV (meet (a1, a2) (b1, b2))) ∧ Below W.heap.size W w' := meet_any (a1, a2) (b1, b2)
  have gM2 : ∀ W : World, Calls Try.prog 19 #[.agg #[.int .i64 b1, .int .i64 b2], .agg #[.int .i64 a1, .int .i64 a2]] W fun e w' => e = .returned (meetV (meet (a1, a2) (b1, b2))) ∧ Below W.heap.size W w' := fun W => by rw [meet_comm]; exact meet_any (b1, b2) (a1, a2) W
  have gMs : ∀ W : World, Calls Try.prog 20 #[.agg #[.int .i64 a1, .int .i64 a2], .agg #[.int .i64 b1, .int .i64 b2]] W fun e w' => e = .returned (.bool (meet (a1, a2) (b1, b2)).isSome) ∧ Below W.heap.size W w' := meets_any (a1, a2) (b1, b2)
  have gMa : ∀ W : World, Calls Try.prog 19 #[.agg #[.int .i64 a1, .int .i64 a2], .agg #[.int .i64 a1, .int .i64 a2]] W fun e w' => e = .returned (meetV (meet (a1, a2) (a1, a2))) ∧ Below W.heap.size W w' := meet_any (a1, a2) (a1, a2)
  rw [meet_self] at gMa
  have gLa : ∀ W : World, Calls Try.prog 18 #[.agg #[.int .i64 a1, .int .i64 a2]] W fun e w' => e = .returned (.int .i64 (lenS (a1, a2))) ∧ Below W.heap.size W w' := fun W => (len_any (a1, a2) ha W).mono fun e w' ⟨h1, h2⟩ => ⟨h1, grown_below h2⟩
  have gLb : ∀ W : World, Calls Try.prog 18 #[.agg #[.int .i64 b1, .int .i64 b2]] W fun e w' => e = .returned (.int .i64 (lenS (b1, b2))) ∧ Below W.heap.size W w' := fun W => (len_any (b1, b2) hb W).mono fun e w' ⟨h1, h2⟩ => ⟨h1, grown_below h2⟩
  rcases ho : meet (a1, a2) (b1, b2) with _ | m
  · have hno := meet_none ho c
    by_cases hok : Ok (a1, a2)
    · by_cases hha : Has (a1, a2) c
      · have hhb : ¬ Has (b1, b2) c := fun h => hno ⟨hha, h⟩
        have hM1 : ∀ W : World, Calls Try.prog 19 #[.agg #[.int .i64 a1, .int .i64 a2], .agg #[.int .i64 b1, .int .i64 b2]] W fun e w' => e = .returned (.tuple #[.agg #[.int .i64 0, .int .i64 0], .bool false]) ∧ Below W.heap.size W w' := fun W => by have := gM1 W; rw [ho] at this; exact this
        have hM2 : ∀ W : World, Calls Try.prog 19 #[.agg #[.int .i64 b1, .int .i64 b2], .agg #[.int .i64 a1, .int .i64 a2]] W fun e w' => e = .returned (.tuple #[.agg #[.int .i64 0, .int .i64 0], .bool false]) ∧ Below W.heap.size W w' := fun W => by have := gM2 W; rw [ho] at this; exact this
        have hMs : ∀ W : World, Calls Try.prog 20 #[.agg #[.int .i64 a1, .int .i64 a2], .agg #[.int .i64 b1, .int .i64 b2]] W fun e w' => e = .returned (.bool false) ∧ Below W.heap.size W w' := fun W => by have := gMs W; rw [ho] at this; exact this
        have hHa : ∀ W : World, Calls Try.prog 16 #[.agg #[.int .i64 a1, .int .i64 a2], .int .i64 c] W fun e w' => e = .returned (.bool true) ∧ Below W.heap.size W w' := fun W => by have := gHa W; rwa [decide_eq_true hha] at this
        have hHb : ∀ W : World, Calls Try.prog 16 #[.agg #[.int .i64 b1, .int .i64 b2], .int .i64 c] W fun e w' => e = .returned (.bool false) ∧ Below W.heap.size W w' := fun W => by have := gHb W; rwa [decide_eq_false hhb] at this
        have hV : ∀ W : World, Calls Try.prog 15 #[.agg #[.int .i64 a1, .int .i64 a2]] W fun e w' => e = .returned (.bool true) ∧ Below W.heap.size W w' := fun W => by have := gV W; rwa [decide_eq_true hok] at this
        have hMa : ∀ W : World, Calls Try.prog 19 #[.agg #[.int .i64 a1, .int .i64 a2], .agg #[.int .i64 a1, .int .i64 a2]] W fun e w' => e = .returned (.tuple #[.agg #[.int .i64 a1, .int .i64 a2], .bool true]) ∧ Below W.heap.size W w' := fun W => by have := gMa W; rw [if_pos hok] at this; exact this
        clear hno hha hhb hok ho ha hb
        clear gV gHa gHb gM1 gM2 gMs gMa gLa gLb
        obtain ⟨p3, hp3⟩ : ∃ p, p = w.heap.size := ⟨_, rfl⟩
        obtain ⟨p4, hp4⟩ : ∃ p, p = w.heap.size + 1 := ⟨_, rfl⟩
        obtain ⟨w2, hw2⟩ : ∃ w', w' = (w.alloc (.cells #[.int .i64 a1, .int .i64 a2] 31)).alloc (.cells #[.int .i64 b1, .int .i64 b2] 31) := ⟨_, rfl⟩
        have H3_2 : Hid (Sits w2 p3 31 #[.int .i64 a1, .int .i64 a2]) := Lib.hid (by rw [hw2, hp3]; exact (Sits.fresh w _ _).alloc _)
        have H4_2 : Hid (Sits w2 p4 31 #[.int .i64 b1, .int .i64 b2]) := Lib.hid (by
          have := Sits.fresh (w.alloc (.cells #[.int .i64 a1, .int .i64 a2] 31)) 31 #[.int .i64 b1, .int .i64 b2]
          rw [World.size_alloc, ← hp4] at this
          rw [hw2]
          exact this)
        have HB2 : Hid (Below w.heap.size w w2) := Lib.hid (by
          rw [hw2]
          have b1 := (Below.refl w.heap.size w).alloc (Nat.le_refl _) (.cells #[.int .i64 a1, .int .i64 a2] 31)
          exact b1.alloc b1.size _)
        go_enter Try.func6, Try.ntmps6
        go_wp2_with fail
        rw [← hw2, ← hp4, ← hp3]
        clear hw2 hp3 hp4
        refine (hM1 _).mono ?_
        rintro e w3 ⟨rfl, hb⟩
        have H3_3 := Lib.hid (H3_2.out.below' hb)
        have H4_3 := Lib.hid (H4_2.out.below' hb)
        have HB3 := Lib.hid (HB2.out.trans (hb.mono HB2.out.size))
        clear hb
        obtain ⟨p7, hp7⟩ : ∃ p, p = w3.heap.size := ⟨_, rfl⟩
        obtain ⟨w4, hw4⟩ : ∃ w', w' = w3.alloc (.cells #[.int .i64 0, .int .i64 0] 31) := ⟨_, rfl⟩
        have hb : Below w3.heap.size w3 w4 := hw4 ▸ (Below.refl _ w3).alloc (Nat.le_refl _) _
        have H3_4 := Lib.hid (H3_3.out.below' hb)
        have H4_4 := Lib.hid (H4_3.out.below' hb)
        have H7_4 : Hid (Sits w4 p7 31 #[.int .i64 0, .int .i64 0]) := Lib.hid (by rw [hw4, hp7]; exact Sits.fresh w3 _ _)
        have HB4 := Lib.hid (HB3.out.trans (hb.mono HB3.out.size))
        clear hb 
        have c3_0_1 := H3_4.out.cell 0
        have c3_1_1 := H3_4.out.cell 1
        have c4_0_1 := H4_4.out.cell 0
        have c4_1_1 := H4_4.out.cell 1
        have c7_0_1 := H7_4.out.cell 0
        have c7_1_1 := H7_4.out.cell 1
        simp at c3_0_1 c3_1_1 c4_0_1 c4_1_1 c7_0_1 c7_1_1
        rw [hw4] at c3_0_1 c3_1_1 c4_0_1 c4_1_1 c7_0_1 c7_1_1
        go_wp2_with fail
        rw [← hw4, ← hp7]
        clear hw4 hp7 c3_0_1 c3_1_1 c4_0_1 c4_1_1 c7_0_1 c7_1_1
        refine (hM2 _).mono ?_
        rintro e w5 ⟨rfl, hb⟩
        have H3_5 := Lib.hid (H3_4.out.below' hb)
        have H4_5 := Lib.hid (H4_4.out.below' hb)
        have H7_5 := Lib.hid (H7_4.out.below' hb)
        have HB5 := Lib.hid (HB4.out.trans (hb.mono HB4.out.size))
        clear hb
        have c3_0_2 := H3_5.out.cell 0
        have c3_1_2 := H3_5.out.cell 1
        have c4_0_2 := H4_5.out.cell 0
        have c4_1_2 := H4_5.out.cell 1
        have c7_0_2 := H7_5.out.cell 0
        have c7_1_2 := H7_5.out.cell 1
        simp at c3_0_2 c3_1_2 c4_0_2 c4_1_2 c7_0_2 c7_1_2
        obtain ⟨p9, hp9⟩ : ∃ p, p = w5.heap.size := ⟨_, rfl⟩
        obtain ⟨w6, hw6⟩ : ∃ w', w' = w5.alloc (.cells #[.int .i64 0, .int .i64 0] 31) := ⟨_, rfl⟩
        have hb : Below w5.heap.size w5 w6 := hw6 ▸ (Below.refl _ w5).alloc (Nat.le_refl _) _
        have H3_6 := Lib.hid (H3_5.out.below' hb)
        have H4_6 := Lib.hid (H4_5.out.below' hb)
        have H7_6 := Lib.hid (H7_5.out.below' hb)
        have H9_6 : Hid (Sits w6 p9 31 #[.int .i64 0, .int .i64 0]) := Lib.hid (by rw [hw6, hp9]; exact Sits.fresh w5 _ _)
        have HB6 := Lib.hid (HB5.out.trans (hb.mono HB5.out.size))
        clear hb c3_0_2 c3_1_2 c4_0_2 c4_1_2 c7_0_2 c7_1_2
        have c3_0_3 := H3_6.out.cell 0
        have c3_1_3 := H3_6.out.cell 1
        have c4_0_3 := H4_6.out.cell 0
        have c4_1_3 := H4_6.out.cell 1
        have c7_0_3 := H7_6.out.cell 0
        have c7_1_3 := H7_6.out.cell 1
        have c9_0_3 := H9_6.out.cell 0
        have c9_1_3 := H9_6.out.cell 1
        simp at c3_0_3 c3_1_3 c4_0_3 c4_1_3 c7_0_3 c7_1_3 c9_0_3 c9_1_3
        rw [hw6] at c3_0_3 c3_1_3 c4_0_3 c4_1_3 c7_0_3 c7_1_3 c9_0_3 c9_1_3
        go_wp2_with fail
        rw [← hw6, ← hp9]
        clear hw6 hp9 c3_0_3 c3_1_3 c4_0_3 c4_1_3 c7_0_3 c7_1_3 c9_0_3 c9_1_3
        refine (hHa _).mono ?_
        rintro e w7 ⟨rfl, hb⟩
        have H3_7 := Lib.hid (H3_6.out.below' hb)
        have H4_7 := Lib.hid (H4_6.out.below' hb)
        have H7_7 := Lib.hid (H7_6.out.below' hb)
        have H9_7 := Lib.hid (H9_6.out.below' hb)
        have HB7 := Lib.hid (HB6.out.trans (hb.mono HB6.out.size))
        clear hb
        have c3_0_4 := H3_7.out.cell 0
        have c3_1_4 := H3_7.out.cell 1
        have c4_0_4 := H4_7.out.cell 0
        have c4_1_4 := H4_7.out.cell 1
        have c7_0_4 := H7_7.out.cell 0
        have c7_1_4 := H7_7.out.cell 1
        have c9_0_4 := H9_7.out.cell 0
        have c9_1_4 := H9_7.out.cell 1
        simp at c3_0_4 c3_1_4 c4_0_4 c4_1_4 c7_0_4 c7_1_4 c9_0_4 c9_1_4
        go_wp2_with fail
        clear c3_0_4 c3_1_4 c4_0_4 c4_1_4 c7_0_4 c7_1_4 c9_0_4 c9_1_4
        refine (hHb _).mono ?_
        rintro e w8 ⟨rfl, hb⟩
        have H3_8 := Lib.hid (H3_7.out.below' hb)
        have H4_8 := Lib.hid (H4_7.out.below' hb)
        have H7_8 := Lib.hid (H7_7.out.below' hb)
        have H9_8 := Lib.hid (H9_7.out.below' hb)
        have HB8 := Lib.hid (HB7.out.trans (hb.mono HB7.out.size))
        clear hb
        have c3_0_5 := H3_8.out.cell 0
        have c3_1_5 := H3_8.out.cell 1
        have c4_0_5 := H4_8.out.cell 0
        have c4_1_5 := H4_8.out.cell 1
        have c7_0_5 := H7_8.out.cell 0
        have c7_1_5 := H7_8.out.cell 1
        have c9_0_5 := H9_8.out.cell 0
        have c9_1_5 := H9_8.out.cell 1
        simp at c3_0_5 c3_1_5 c4_0_5 c4_1_5 c7_0_5 c7_1_5 c9_0_5 c9_1_5
        go_wp2_with fail
        clear c3_0_5 c3_1_5 c4_0_5 c4_1_5 c7_0_5 c7_1_5 c9_0_5 c9_1_5
        refine (hMs _).mono ?_
        rintro e w9 ⟨rfl, hb⟩
        have H3_9 := Lib.hid (H3_8.out.below' hb)
        have H4_9 := Lib.hid (H4_8.out.below' hb)
        have H7_9 := Lib.hid (H7_8.out.below' hb)
        have H9_9 := Lib.hid (H9_8.out.below' hb)
        have HB9 := Lib.hid (HB8.out.trans (hb.mono HB8.out.size))
        clear hb
        have c3_0_6 := H3_9.out.cell 0
        have c3_1_6 := H3_9.out.cell 1
        have c4_0_6 := H4_9.out.cell 0
        have c4_1_6 := H4_9.out.cell 1
        have c7_0_6 := H7_9.out.cell 0
        have c7_1_6 := H7_9.out.cell 1
        have c9_0_6 := H9_9.out.cell 0
        have c9_1_6 := H9_9.out.cell 1
        simp at c3_0_6 c3_1_6 c4_0_6 c4_1_6 c7_0_6 c7_1_6 c9_0_6 c9_1_6
        go_wp2_with fail
        clear c3_0_6 c3_1_6 c4_0_6 c4_1_6 c7_0_6 c7_1_6 c9_0_6 c9_1_6
        refine (hMa _).mono ?_
        rintro e w10 ⟨rfl, hb⟩
        have H3_10 := Lib.hid (H3_9.out.below' hb)
        have H4_10 := Lib.hid (H4_9.out.below' hb)
        have H7_10 := Lib.hid (H7_9.out.below' hb)
        have H9_10 := Lib.hid (H9_9.out.below' hb)
        have HB10 := Lib.hid (HB9.out.trans (hb.mono HB9.out.size))
        clear hb
        have c3_0_7 := H3_10.out.cell 0
        have c3_1_7 := H3_10.out.cell 1
        have c4_0_7 := H4_10.out.cell 0
        have c4_1_7 := H4_10.out.cell 1
        have c7_0_7 := H7_10.out.cell 0
        have c7_1_7 := H7_10.out.cell 1
        have c9_0_7 := H9_10.out.cell 0
        have c9_1_7 := H9_10.out.cell 1
        simp at c3_0_7 c3_1_7 c4_0_7 c4_1_7 c7_0_7 c7_1_7 c9_0_7 c9_1_7
        obtain ⟨p12, hp12⟩ : ∃ p, p = w10.heap.size := ⟨_, rfl⟩
        obtain ⟨w11, hw11⟩ : ∃ w', w' = w10.alloc (.cells #[.int .i64 a1, .int .i64 a2] 31) := ⟨_, rfl⟩
        have hb : Below w10.heap.size w10 w11 := hw11 ▸ (Below.refl _ w10).alloc (Nat.le_refl _) _
        have H3_11 := Lib.hid (H3_10.out.below' hb)
        have H4_11 := Lib.hid (H4_10.out.below' hb)
        have H7_11 := Lib.hid (H7_10.out.below' hb)
        have H9_11 := Lib.hid (H9_10.out.below' hb)
        have H12_11 : Hid (Sits w11 p12 31 #[.int .i64 a1, .int .i64 a2]) := Lib.hid (by rw [hw11, hp12]; exact Sits.fresh w10 _ _)
        have HB11 := Lib.hid (HB10.out.trans (hb.mono HB10.out.size))
        clear hb c3_0_7 c3_1_7 c4_0_7 c4_1_7 c7_0_7 c7_1_7 c9_0_7 c9_1_7
        have c3_0_8 := H3_11.out.cell 0
        have c3_1_8 := H3_11.out.cell 1
        have c4_0_8 := H4_11.out.cell 0
        have c4_1_8 := H4_11.out.cell 1
        have c7_0_8 := H7_11.out.cell 0
        have c7_1_8 := H7_11.out.cell 1
        have c9_0_8 := H9_11.out.cell 0
        have c9_1_8 := H9_11.out.cell 1
        have c12_0_8 := H12_11.out.cell 0
        have c12_1_8 := H12_11.out.cell 1
        simp at c3_0_8 c3_1_8 c4_0_8 c4_1_8 c7_0_8 c7_1_8 c9_0_8 c9_1_8 c12_0_8 c12_1_8
        rw [hw11] at c3_0_8 c3_1_8 c4_0_8 c4_1_8 c7_0_8 c7_1_8 c9_0_8 c9_1_8 c12_0_8 c12_1_8
        go_wp2_with fail
        rw [← hw11, ← hp12]
        clear hw11 hp12 c3_0_8 c3_1_8 c4_0_8 c4_1_8 c7_0_8 c7_1_8 c9_0_8 c9_1_8 c12_0_8 c12_1_8
        have HC := Lib.hid (And.intro (H3_11.out.cell 0) (And.intro (H3_11.out.cell 1) (And.intro (H4_11.out.cell 0) (And.intro (H4_11.out.cell 1) (And.intro (H7_11.out.cell 0) (And.intro (H7_11.out.cell 1) (And.intro (H12_11.out.cell 0) (H12_11.out.cell 1))))))))
        simp at HC
        have HL := Lib.hid (And.intro H3_11.out.lt (And.intro H4_11.out.lt (And.intro H7_11.out.lt H12_11.out.lt)))
        have HB := HB11
        refine wp_region_ex (by kernel_rfl) (fun W => Below w11.heap.size w11 W) (fun W W' => Below W.heap.size W W')
          [[], [(65, some 0)], [(13, none), (66, some 1)], [(3, none), (66, some 1)], [(66, some 1), (68, some 3)], [(66, some 1), (67, some 2), (69, some 4)], [(66, some 1), (70, some 5)], [(71, some 6)], [(13, none), (72, some 7)], [(72, some 7), (73, some 8)], [(72, some 7), (74, some 9)], [(12, none), (75, some 10)], [(3, none), (75, some 10)], [(75, some 10), (76, some 11), (77, some 12)], [(72, some 7), (75, some 10), (78, some 13)], [(72, some 7), (79, some 14)], [(80, some 15)], [(8, none), (81, some 16)], [(81, some 16), (82, some 17)], [(81, some 16), (83, some 18)], [(7, none), (84, some 19)], [(84, some 19), (85, some 20)], [(3, none), (84, some 19)], [(84, some 19), (87, some 22)], [(84, some 19), (86, some 21), (88, some 23)], [(84, some 19), (89, some 24)], [(7, none), (90, some 25)], [(90, some 25), (91, some 26)], [(4, none), (90, some 25)], [(90, some 25), (93, some 28)], [(90, some 25), (92, some 27), (94, some 29)], [(84, some 19), (90, some 25), (95, some 30)], [(81, some 16), (84, some 19), (96, some 31)], [(81, some 16), (97, some 32)], [(98, some 33)]]
          [none, none, none, none, none, none, some 34, none, none, none, none, none, none, none, none, none, none, none, none, none, none, none, none, none, none, none, none, none, none, none, none, none, none, none, none, none, none, none, none, none, none, none, none, none, none, none, none, none, none, none, none, none, none, none, none, none, none, none, none, none, none, none, none, none, none, some 0, some 1, some 2, some 3, some 4, some 5, some 6, some 7, some 8, some 9, some 10, some 11, some 12, some 13, some 14, some 15, some 16, some 17, some 18, some 19, some 20, some 21, some 22, some 23, some 24, some 25, some 26, some 27, some 28, some 29, some 30, some 31, some 32, some 33] (by kernel_rfl) (by kernel_rfl) ((Below.refl _ w11).drew) ?_
        refine ex_callx (.bool true) (fun a' W hR hF => ?_) ?_
        · simp only [FactsOf, List.nil_append, List.cons_append, List.getD_cons_zero, List.getD_cons_succ, exists_eq_left, and_true, List.getElem?_toArray, List.getElem?_cons_zero, List.getElem?_cons_succ] at hF
          exact ⟨by simp [Region.wanted, yielded, hF], 7, #[], by go_simp, (hAl W).mono fun e w' ⟨he, hb⟩ => ⟨he, hR.trans (hb.mono hR.size), hb⟩⟩
        iterate 3
          refine ex_pure (c := ?_) (fun W _ => Below.refl _ W) ?_ ?_
          rotate_left
          · intro a' W hR hF
            simp only [FactsOf, List.nil_append, List.cons_append, List.getD_cons_zero, List.getD_cons_succ, exists_eq_left, and_true, List.getElem?_toArray, List.getElem?_cons_zero, List.getElem?_cons_succ] at hF
            have k30 := (hR.cell (p := ⟨p3, 0, none⟩) HL.out.1).trans HC.out.1
            have k31 := (hR.cell (p := ⟨p3, 1, none⟩) HL.out.1).trans HC.out.2.1
            have k40 := (hR.cell (p := ⟨p4, 0, none⟩) HL.out.2.1).trans HC.out.2.2.1
            have k41 := (hR.cell (p := ⟨p4, 1, none⟩) HL.out.2.1).trans HC.out.2.2.2.1
            have k70 := (hR.cell (p := ⟨p7, 0, none⟩) HL.out.2.2.1).trans HC.out.2.2.2.2.1
            have k71 := (hR.cell (p := ⟨p7, 1, none⟩) HL.out.2.2.1).trans HC.out.2.2.2.2.2.1
            have kx0 := (hR.cell (p := ⟨p12, 0, none⟩) HL.out.2.2.2).trans HC.out.2.2.2.2.2.2.1
            have kx1 := (hR.cell (p := ⟨p12, 1, none⟩) HL.out.2.2.2).trans HC.out.2.2.2.2.2.2.2
            refine ⟨?_, ?_⟩
            · simp [Region.wanted, yielded, hF]
            · go_simp
              with_reducible rfl
        refine ex_callx (.bool true) (fun a' W hR hF => ?_) ?_
        · simp only [FactsOf, List.nil_append, List.cons_append, List.getD_cons_zero, List.getD_cons_succ, exists_eq_left, and_true, List.getElem?_toArray, List.getElem?_cons_zero, List.getElem?_cons_succ] at hF
          exact ⟨by simp [Region.wanted, yielded, hF], 15, #[.agg #[.int .i64 a1, .int .i64 a2]], by go_simp, (hV W).mono fun e w' ⟨he, hb⟩ => ⟨he, hR.trans (hb.mono hR.size), hb⟩⟩
        iterate 6
          refine ex_pure (c := ?_) (fun W _ => Below.refl _ W) ?_ ?_
          rotate_left
          · intro a' W hR hF
            simp only [FactsOf, List.nil_append, List.cons_append, List.getD_cons_zero, List.getD_cons_succ, exists_eq_left, and_true, List.getElem?_toArray, List.getElem?_cons_zero, List.getElem?_cons_succ] at hF
            have k30 := (hR.cell (p := ⟨p3, 0, none⟩) HL.out.1).trans HC.out.1
            have k31 := (hR.cell (p := ⟨p3, 1, none⟩) HL.out.1).trans HC.out.2.1
            have k40 := (hR.cell (p := ⟨p4, 0, none⟩) HL.out.2.1).trans HC.out.2.2.1
            have k41 := (hR.cell (p := ⟨p4, 1, none⟩) HL.out.2.1).trans HC.out.2.2.2.1
            have k70 := (hR.cell (p := ⟨p7, 0, none⟩) HL.out.2.2.1).trans HC.out.2.2.2.2.1
            have k71 := (hR.cell (p := ⟨p7, 1, none⟩) HL.out.2.2.1).trans HC.out.2.2.2.2.2.1
            have kx0 := (hR.cell (p := ⟨p12, 0, none⟩) HL.out.2.2.2).trans HC.out.2.2.2.2.2.2.1
            have kx1 := (hR.cell (p := ⟨p12, 1, none⟩) HL.out.2.2.2).trans HC.out.2.2.2.2.2.2.2
            refine ⟨?_, ?_⟩
            · simp [Region.wanted, yielded, hF]
            · go_simp
              with_reducible rfl
        iterate 3
          refine ex_pure (c := ?_) (fun W _ => Below.refl _ W) ?_ ?_
          rotate_left
          · intro a' W hR hF
            simp only [FactsOf, List.nil_append, List.cons_append, List.getD_cons_zero, List.getD_cons_succ, exists_eq_left, and_true, List.getElem?_toArray, List.getElem?_cons_zero, List.getElem?_cons_succ] at hF
            have k30 := (hR.cell (p := ⟨p3, 0, none⟩) HL.out.1).trans HC.out.1
            have k31 := (hR.cell (p := ⟨p3, 1, none⟩) HL.out.1).trans HC.out.2.1
            have k40 := (hR.cell (p := ⟨p4, 0, none⟩) HL.out.2.1).trans HC.out.2.2.1
            have k41 := (hR.cell (p := ⟨p4, 1, none⟩) HL.out.2.1).trans HC.out.2.2.2.1
            have k70 := (hR.cell (p := ⟨p7, 0, none⟩) HL.out.2.2.1).trans HC.out.2.2.2.2.1
            have k71 := (hR.cell (p := ⟨p7, 1, none⟩) HL.out.2.2.1).trans HC.out.2.2.2.2.2.1
            have kx0 := (hR.cell (p := ⟨p12, 0, none⟩) HL.out.2.2.2).trans HC.out.2.2.2.2.2.2.1
            have kx1 := (hR.cell (p := ⟨p12, 1, none⟩) HL.out.2.2.2).trans HC.out.2.2.2.2.2.2.2
            refine ⟨?_, ?_⟩
            · simp [Region.wanted, yielded, hF]
            · go_simp
              with_reducible rfl
        iterate 6
          refine ex_pure (c := ?_) (fun W _ => Below.refl _ W) ?_ ?_
          rotate_left
          · intro a' W hR hF
            simp only [FactsOf, List.nil_append, List.cons_append, List.getD_cons_zero, List.getD_cons_succ, exists_eq_left, and_true, List.getElem?_toArray, List.getElem?_cons_zero, List.getElem?_cons_succ] at hF
            have k30 := (hR.cell (p := ⟨p3, 0, none⟩) HL.out.1).trans HC.out.1
            have k31 := (hR.cell (p := ⟨p3, 1, none⟩) HL.out.1).trans HC.out.2.1
            have k40 := (hR.cell (p := ⟨p4, 0, none⟩) HL.out.2.1).trans HC.out.2.2.1
            have k41 := (hR.cell (p := ⟨p4, 1, none⟩) HL.out.2.1).trans HC.out.2.2.2.1
            have k70 := (hR.cell (p := ⟨p7, 0, none⟩) HL.out.2.2.1).trans HC.out.2.2.2.2.1
            have k71 := (hR.cell (p := ⟨p7, 1, none⟩) HL.out.2.2.1).trans HC.out.2.2.2.2.2.1
            have kx0 := (hR.cell (p := ⟨p12, 0, none⟩) HL.out.2.2.2).trans HC.out.2.2.2.2.2.2.1
            have kx1 := (hR.cell (p := ⟨p12, 1, none⟩) HL.out.2.2.2).trans HC.out.2.2.2.2.2.2.2
            refine ⟨?_, ?_⟩
            · simp [Region.wanted, yielded, hF]
            · go_simp
              with_reducible rfl
        iterate 12
          refine ex_skip (fun W _ => Below.refl _ W) ?_ ?_
          · intro a' W hR hF
            simp only [FactsOf, List.nil_append, List.cons_append, List.getD_cons_zero, List.getD_cons_succ, exists_eq_left, and_true, List.getElem?_toArray, List.getElem?_cons_zero, List.getElem?_cons_succ] at hF
            simp [Region.wanted, yielded, hF, undef]
        iterate 3
          refine ex_pure (c := ?_) (fun W _ => Below.refl _ W) ?_ ?_
          rotate_left
          · intro a' W hR hF
            simp only [FactsOf, List.nil_append, List.cons_append, List.getD_cons_zero, List.getD_cons_succ, exists_eq_left, and_true, List.getElem?_toArray, List.getElem?_cons_zero, List.getElem?_cons_succ] at hF
            have k30 := (hR.cell (p := ⟨p3, 0, none⟩) HL.out.1).trans HC.out.1
            have k31 := (hR.cell (p := ⟨p3, 1, none⟩) HL.out.1).trans HC.out.2.1
            have k40 := (hR.cell (p := ⟨p4, 0, none⟩) HL.out.2.1).trans HC.out.2.2.1
            have k41 := (hR.cell (p := ⟨p4, 1, none⟩) HL.out.2.1).trans HC.out.2.2.2.1
            have k70 := (hR.cell (p := ⟨p7, 0, none⟩) HL.out.2.2.1).trans HC.out.2.2.2.2.1
            have k71 := (hR.cell (p := ⟨p7, 1, none⟩) HL.out.2.2.1).trans HC.out.2.2.2.2.2.1
            have kx0 := (hR.cell (p := ⟨p12, 0, none⟩) HL.out.2.2.2).trans HC.out.2.2.2.2.2.2.1
            have kx1 := (hR.cell (p := ⟨p12, 1, none⟩) HL.out.2.2.2).trans HC.out.2.2.2.2.2.2.2
            refine ⟨?_, ?_⟩
            · simp [Region.wanted, yielded, hF]
            · go_simp
              with_reducible rfl
        show ∀ W, _ → _
        intro W hR
        simp only [FinOf, List.nil_append, List.cons_append, List.getD_cons_zero, List.getD_cons_succ, forall_eq, forall_exists_index, and_imp, Nat.reduceAdd, Array.getD_eq_getD_getElem?, List.getElem?_toArray, List.getElem?_cons_zero, List.getElem?_cons_succ, Option.getD_some]
        go_wp2
        go_ret
        exact ⟨rfl, HB.out.trans (hR.mono HB.out.size)⟩
      · have hM1 : ∀ W : World, Calls Try.prog 19 #[.agg #[.int .i64 a1, .int .i64 a2], .agg #[.int .i64 b1, .int .i64 b2]] W fun e w' => e = .returned (.tuple #[.agg #[.int .i64 0, .int .i64 0], .bool false]) ∧ Below W.heap.size W w' := fun W => by have := gM1 W; rw [ho] at this; exact this
        have hM2 : ∀ W : World, Calls Try.prog 19 #[.agg #[.int .i64 b1, .int .i64 b2], .agg #[.int .i64 a1, .int .i64 a2]] W fun e w' => e = .returned (.tuple #[.agg #[.int .i64 0, .int .i64 0], .bool false]) ∧ Below W.heap.size W w' := fun W => by have := gM2 W; rw [ho] at this; exact this
        have hMs : ∀ W : World, Calls Try.prog 20 #[.agg #[.int .i64 a1, .int .i64 a2], .agg #[.int .i64 b1, .int .i64 b2]] W fun e w' => e = .returned (.bool false) ∧ Below W.heap.size W w' := fun W => by have := gMs W; rw [ho] at this; exact this
        have hHa : ∀ W : World, Calls Try.prog 16 #[.agg #[.int .i64 a1, .int .i64 a2], .int .i64 c] W fun e w' => e = .returned (.bool false) ∧ Below W.heap.size W w' := fun W => by have := gHa W; rwa [decide_eq_false hha] at this
        have hV : ∀ W : World, Calls Try.prog 15 #[.agg #[.int .i64 a1, .int .i64 a2]] W fun e w' => e = .returned (.bool true) ∧ Below W.heap.size W w' := fun W => by have := gV W; rwa [decide_eq_true hok] at this
        have hMa : ∀ W : World, Calls Try.prog 19 #[.agg #[.int .i64 a1, .int .i64 a2], .agg #[.int .i64 a1, .int .i64 a2]] W fun e w' => e = .returned (.tuple #[.agg #[.int .i64 a1, .int .i64 a2], .bool true]) ∧ Below W.heap.size W w' := fun W => by have := gMa W; rw [if_pos hok] at this; exact this
        clear hno hha hok ho ha hb
        clear gV gHa gHb gM1 gM2 gMs gMa gLa gLb
        obtain ⟨p3, hp3⟩ : ∃ p, p = w.heap.size := ⟨_, rfl⟩
        obtain ⟨p4, hp4⟩ : ∃ p, p = w.heap.size + 1 := ⟨_, rfl⟩
        obtain ⟨w2, hw2⟩ : ∃ w', w' = (w.alloc (.cells #[.int .i64 a1, .int .i64 a2] 31)).alloc (.cells #[.int .i64 b1, .int .i64 b2] 31) := ⟨_, rfl⟩
        have H3_2 : Hid (Sits w2 p3 31 #[.int .i64 a1, .int .i64 a2]) := Lib.hid (by rw [hw2, hp3]; exact (Sits.fresh w _ _).alloc _)
        have H4_2 : Hid (Sits w2 p4 31 #[.int .i64 b1, .int .i64 b2]) := Lib.hid (by
          have := Sits.fresh (w.alloc (.cells #[.int .i64 a1, .int .i64 a2] 31)) 31 #[.int .i64 b1, .int .i64 b2]
          rw [World.size_alloc, ← hp4] at this
          rw [hw2]
          exact this)
        have HB2 : Hid (Below w.heap.size w w2) := Lib.hid (by
          rw [hw2]
          have b1 := (Below.refl w.heap.size w).alloc (Nat.le_refl _) (.cells #[.int .i64 a1, .int .i64 a2] 31)
          exact b1.alloc b1.size _)
        go_enter Try.func6, Try.ntmps6
        go_wp2_with fail
        rw [← hw2, ← hp4, ← hp3]
        clear hw2 hp3 hp4
        refine (hM1 _).mono ?_
        rintro e w3 ⟨rfl, hb⟩
        have H3_3 := Lib.hid (H3_2.out.below' hb)
        have H4_3 := Lib.hid (H4_2.out.below' hb)
        have HB3 := Lib.hid (HB2.out.trans (hb.mono HB2.out.size))
        clear hb
        obtain ⟨p7, hp7⟩ : ∃ p, p = w3.heap.size := ⟨_, rfl⟩
        obtain ⟨w4, hw4⟩ : ∃ w', w' = w3.alloc (.cells #[.int .i64 0, .int .i64 0] 31) := ⟨_, rfl⟩
        have hb : Below w3.heap.size w3 w4 := hw4 ▸ (Below.refl _ w3).alloc (Nat.le_refl _) _
        have H3_4 := Lib.hid (H3_3.out.below' hb)
        have H4_4 := Lib.hid (H4_3.out.below' hb)
        have H7_4 : Hid (Sits w4 p7 31 #[.int .i64 0, .int .i64 0]) := Lib.hid (by rw [hw4, hp7]; exact Sits.fresh w3 _ _)
        have HB4 := Lib.hid (HB3.out.trans (hb.mono HB3.out.size))
        clear hb 
        have c3_0_1 := H3_4.out.cell 0
        have c3_1_1 := H3_4.out.cell 1
        have c4_0_1 := H4_4.out.cell 0
        have c4_1_1 := H4_4.out.cell 1
        have c7_0_1 := H7_4.out.cell 0
        have c7_1_1 := H7_4.out.cell 1
        simp at c3_0_1 c3_1_1 c4_0_1 c4_1_1 c7_0_1 c7_1_1
        rw [hw4] at c3_0_1 c3_1_1 c4_0_1 c4_1_1 c7_0_1 c7_1_1
        go_wp2_with fail
        rw [← hw4, ← hp7]
        clear hw4 hp7 c3_0_1 c3_1_1 c4_0_1 c4_1_1 c7_0_1 c7_1_1
        refine (hM2 _).mono ?_
        rintro e w5 ⟨rfl, hb⟩
        have H3_5 := Lib.hid (H3_4.out.below' hb)
        have H4_5 := Lib.hid (H4_4.out.below' hb)
        have H7_5 := Lib.hid (H7_4.out.below' hb)
        have HB5 := Lib.hid (HB4.out.trans (hb.mono HB4.out.size))
        clear hb
        have c3_0_2 := H3_5.out.cell 0
        have c3_1_2 := H3_5.out.cell 1
        have c4_0_2 := H4_5.out.cell 0
        have c4_1_2 := H4_5.out.cell 1
        have c7_0_2 := H7_5.out.cell 0
        have c7_1_2 := H7_5.out.cell 1
        simp at c3_0_2 c3_1_2 c4_0_2 c4_1_2 c7_0_2 c7_1_2
        obtain ⟨p9, hp9⟩ : ∃ p, p = w5.heap.size := ⟨_, rfl⟩
        obtain ⟨w6, hw6⟩ : ∃ w', w' = w5.alloc (.cells #[.int .i64 0, .int .i64 0] 31) := ⟨_, rfl⟩
        have hb : Below w5.heap.size w5 w6 := hw6 ▸ (Below.refl _ w5).alloc (Nat.le_refl _) _
        have H3_6 := Lib.hid (H3_5.out.below' hb)
        have H4_6 := Lib.hid (H4_5.out.below' hb)
        have H7_6 := Lib.hid (H7_5.out.below' hb)
        have H9_6 : Hid (Sits w6 p9 31 #[.int .i64 0, .int .i64 0]) := Lib.hid (by rw [hw6, hp9]; exact Sits.fresh w5 _ _)
        have HB6 := Lib.hid (HB5.out.trans (hb.mono HB5.out.size))
        clear hb c3_0_2 c3_1_2 c4_0_2 c4_1_2 c7_0_2 c7_1_2
        have c3_0_3 := H3_6.out.cell 0
        have c3_1_3 := H3_6.out.cell 1
        have c4_0_3 := H4_6.out.cell 0
        have c4_1_3 := H4_6.out.cell 1
        have c7_0_3 := H7_6.out.cell 0
        have c7_1_3 := H7_6.out.cell 1
        have c9_0_3 := H9_6.out.cell 0
        have c9_1_3 := H9_6.out.cell 1
        simp at c3_0_3 c3_1_3 c4_0_3 c4_1_3 c7_0_3 c7_1_3 c9_0_3 c9_1_3
        rw [hw6] at c3_0_3 c3_1_3 c4_0_3 c4_1_3 c7_0_3 c7_1_3 c9_0_3 c9_1_3
        go_wp2_with fail
        rw [← hw6, ← hp9]
        clear hw6 hp9 c3_0_3 c3_1_3 c4_0_3 c4_1_3 c7_0_3 c7_1_3 c9_0_3 c9_1_3
        refine (hHa _).mono ?_
        rintro e w7 ⟨rfl, hb⟩
        have H3_7 := Lib.hid (H3_6.out.below' hb)
        have H4_7 := Lib.hid (H4_6.out.below' hb)
        have H7_7 := Lib.hid (H7_6.out.below' hb)
        have H9_7 := Lib.hid (H9_6.out.below' hb)
        have HB7 := Lib.hid (HB6.out.trans (hb.mono HB6.out.size))
        clear hb
        have c3_0_4 := H3_7.out.cell 0
        have c3_1_4 := H3_7.out.cell 1
        have c4_0_4 := H4_7.out.cell 0
        have c4_1_4 := H4_7.out.cell 1
        have c7_0_4 := H7_7.out.cell 0
        have c7_1_4 := H7_7.out.cell 1
        have c9_0_4 := H9_7.out.cell 0
        have c9_1_4 := H9_7.out.cell 1
        simp at c3_0_4 c3_1_4 c4_0_4 c4_1_4 c7_0_4 c7_1_4 c9_0_4 c9_1_4
        go_wp2_with fail
        clear c3_0_4 c3_1_4 c4_0_4 c4_1_4 c7_0_4 c7_1_4 c9_0_4 c9_1_4
        refine (hMs _).mono ?_
        rintro e w8 ⟨rfl, hb⟩
        have H3_8 := Lib.hid (H3_7.out.below' hb)
        have H4_8 := Lib.hid (H4_7.out.below' hb)
        have H7_8 := Lib.hid (H7_7.out.below' hb)
        have H9_8 := Lib.hid (H9_7.out.below' hb)
        have HB8 := Lib.hid (HB7.out.trans (hb.mono HB7.out.size))
        clear hb
        have c3_0_5 := H3_8.out.cell 0
        have c3_1_5 := H3_8.out.cell 1
        have c4_0_5 := H4_8.out.cell 0
        have c4_1_5 := H4_8.out.cell 1
        have c7_0_5 := H7_8.out.cell 0
        have c7_1_5 := H7_8.out.cell 1
        have c9_0_5 := H9_8.out.cell 0
        have c9_1_5 := H9_8.out.cell 1
        simp at c3_0_5 c3_1_5 c4_0_5 c4_1_5 c7_0_5 c7_1_5 c9_0_5 c9_1_5
        go_wp2_with fail
        clear c3_0_5 c3_1_5 c4_0_5 c4_1_5 c7_0_5 c7_1_5 c9_0_5 c9_1_5
        refine (hMa _).mono ?_
        rintro e w9 ⟨rfl, hb⟩
        have H3_9 := Lib.hid (H3_8.out.below' hb)
        have H4_9 := Lib.hid (H4_8.out.below' hb)
        have H7_9 := Lib.hid (H7_8.out.below' hb)
        have H9_9 := Lib.hid (H9_8.out.below' hb)
        have HB9 := Lib.hid (HB8.out.trans (hb.mono HB8.out.size))
        clear hb
        have c3_0_6 := H3_9.out.cell 0
        have c3_1_6 := H3_9.out.cell 1
        have c4_0_6 := H4_9.out.cell 0
        have c4_1_6 := H4_9.out.cell 1
        have c7_0_6 := H7_9.out.cell 0
        have c7_1_6 := H7_9.out.cell 1
        have c9_0_6 := H9_9.out.cell 0
        have c9_1_6 := H9_9.out.cell 1
        simp at c3_0_6 c3_1_6 c4_0_6 c4_1_6 c7_0_6 c7_1_6 c9_0_6 c9_1_6
        obtain ⟨p12, hp12⟩ : ∃ p, p = w9.heap.size := ⟨_, rfl⟩
        obtain ⟨w10, hw10⟩ : ∃ w', w' = w9.alloc (.cells #[.int .i64 a1, .int .i64 a2] 31) := ⟨_, rfl⟩
        have hb : Below w9.heap.size w9 w10 := hw10 ▸ (Below.refl _ w9).alloc (Nat.le_refl _) _
        have H3_10 := Lib.hid (H3_9.out.below' hb)
        have H4_10 := Lib.hid (H4_9.out.below' hb)
        have H7_10 := Lib.hid (H7_9.out.below' hb)
        have H9_10 := Lib.hid (H9_9.out.below' hb)
        have H12_10 : Hid (Sits w10 p12 31 #[.int .i64 a1, .int .i64 a2]) := Lib.hid (by rw [hw10, hp12]; exact Sits.fresh w9 _ _)
        have HB10 := Lib.hid (HB9.out.trans (hb.mono HB9.out.size))
        clear hb c3_0_6 c3_1_6 c4_0_6 c4_1_6 c7_0_6 c7_1_6 c9_0_6 c9_1_6
        have c3_0_7 := H3_10.out.cell 0
        have c3_1_7 := H3_10.out.cell 1
        have c4_0_7 := H4_10.out.cell 0
        have c4_1_7 := H4_10.out.cell 1
        have c7_0_7 := H7_10.out.cell 0
        have c7_1_7 := H7_10.out.cell 1
        have c9_0_7 := H9_10.out.cell 0
        have c9_1_7 := H9_10.out.cell 1
        have c12_0_7 := H12_10.out.cell 0
        have c12_1_7 := H12_10.out.cell 1
        simp at c3_0_7 c3_1_7 c4_0_7 c4_1_7 c7_0_7 c7_1_7 c9_0_7 c9_1_7 c12_0_7 c12_1_7
        rw [hw10] at c3_0_7 c3_1_7 c4_0_7 c4_1_7 c7_0_7 c7_1_7 c9_0_7 c9_1_7 c12_0_7 c12_1_7
        go_wp2_with fail
        rw [← hw10, ← hp12]
        clear hw10 hp12 c3_0_7 c3_1_7 c4_0_7 c4_1_7 c7_0_7 c7_1_7 c9_0_7 c9_1_7 c12_0_7 c12_1_7
        have HC := Lib.hid (And.intro (H3_10.out.cell 0) (And.intro (H3_10.out.cell 1) (And.intro (H4_10.out.cell 0) (And.intro (H4_10.out.cell 1) (And.intro (H7_10.out.cell 0) (And.intro (H7_10.out.cell 1) (And.intro (H12_10.out.cell 0) (H12_10.out.cell 1))))))))
        simp at HC
        have HL := Lib.hid (And.intro H3_10.out.lt (And.intro H4_10.out.lt (And.intro H7_10.out.lt H12_10.out.lt)))
        have HB := HB10
        refine wp_region_ex (by kernel_rfl) (fun W => Below w10.heap.size w10 W) (fun W W' => Below W.heap.size W W')
          [[], [(65, some 0)], [(13, none), (66, some 1)], [(3, none), (66, some 1)], [(66, some 1), (68, some 3)], [(66, some 1), (67, some 2), (69, some 4)], [(66, some 1), (70, some 5)], [(71, some 6)], [(13, none), (72, some 7)], [(72, some 7), (73, some 8)], [(72, some 7), (74, some 9)], [(12, none), (75, some 10)], [(3, none), (75, some 10)], [(75, some 10), (76, some 11), (77, some 12)], [(72, some 7), (75, some 10), (78, some 13)], [(72, some 7), (79, some 14)], [(80, some 15)], [(8, none), (81, some 16)], [(81, some 16), (82, some 17)], [(81, some 16), (83, some 18)], [(7, none), (84, some 19)], [(84, some 19), (85, some 20)], [(3, none), (84, some 19)], [(84, some 19), (87, some 22)], [(84, some 19), (86, some 21), (88, some 23)], [(84, some 19), (89, some 24)], [(7, none), (90, some 25)], [(90, some 25), (91, some 26)], [(4, none), (90, some 25)], [(90, some 25), (93, some 28)], [(90, some 25), (92, some 27), (94, some 29)], [(84, some 19), (90, some 25), (95, some 30)], [(81, some 16), (84, some 19), (96, some 31)], [(81, some 16), (97, some 32)], [(98, some 33)]]
          [none, none, none, none, none, none, some 34, none, none, none, none, none, none, none, none, none, none, none, none, none, none, none, none, none, none, none, none, none, none, none, none, none, none, none, none, none, none, none, none, none, none, none, none, none, none, none, none, none, none, none, none, none, none, none, none, none, none, none, none, none, none, none, none, none, none, some 0, some 1, some 2, some 3, some 4, some 5, some 6, some 7, some 8, some 9, some 10, some 11, some 12, some 13, some 14, some 15, some 16, some 17, some 18, some 19, some 20, some 21, some 22, some 23, some 24, some 25, some 26, some 27, some 28, some 29, some 30, some 31, some 32, some 33] (by kernel_rfl) (by kernel_rfl) ((Below.refl _ w10).drew) ?_
        refine ex_callx (.bool true) (fun a' W hR hF => ?_) ?_
        · simp only [FactsOf, List.nil_append, List.cons_append, List.getD_cons_zero, List.getD_cons_succ, exists_eq_left, and_true, List.getElem?_toArray, List.getElem?_cons_zero, List.getElem?_cons_succ] at hF
          exact ⟨by simp [Region.wanted, yielded, hF], 7, #[], by go_simp, (hAl W).mono fun e w' ⟨he, hb⟩ => ⟨he, hR.trans (hb.mono hR.size), hb⟩⟩
        iterate 3
          refine ex_pure (c := ?_) (fun W _ => Below.refl _ W) ?_ ?_
          rotate_left
          · intro a' W hR hF
            simp only [FactsOf, List.nil_append, List.cons_append, List.getD_cons_zero, List.getD_cons_succ, exists_eq_left, and_true, List.getElem?_toArray, List.getElem?_cons_zero, List.getElem?_cons_succ] at hF
            have k30 := (hR.cell (p := ⟨p3, 0, none⟩) HL.out.1).trans HC.out.1
            have k31 := (hR.cell (p := ⟨p3, 1, none⟩) HL.out.1).trans HC.out.2.1
            have k40 := (hR.cell (p := ⟨p4, 0, none⟩) HL.out.2.1).trans HC.out.2.2.1
            have k41 := (hR.cell (p := ⟨p4, 1, none⟩) HL.out.2.1).trans HC.out.2.2.2.1
            have k70 := (hR.cell (p := ⟨p7, 0, none⟩) HL.out.2.2.1).trans HC.out.2.2.2.2.1
            have k71 := (hR.cell (p := ⟨p7, 1, none⟩) HL.out.2.2.1).trans HC.out.2.2.2.2.2.1
            have kx0 := (hR.cell (p := ⟨p12, 0, none⟩) HL.out.2.2.2).trans HC.out.2.2.2.2.2.2.1
            have kx1 := (hR.cell (p := ⟨p12, 1, none⟩) HL.out.2.2.2).trans HC.out.2.2.2.2.2.2.2
            refine ⟨?_, ?_⟩
            · simp [Region.wanted, yielded, hF]
            · go_simp
              with_reducible rfl
        refine ex_callx (.bool true) (fun a' W hR hF => ?_) ?_
        · simp only [FactsOf, List.nil_append, List.cons_append, List.getD_cons_zero, List.getD_cons_succ, exists_eq_left, and_true, List.getElem?_toArray, List.getElem?_cons_zero, List.getElem?_cons_succ] at hF
          exact ⟨by simp [Region.wanted, yielded, hF], 15, #[.agg #[.int .i64 a1, .int .i64 a2]], by go_simp, (hV W).mono fun e w' ⟨he, hb⟩ => ⟨he, hR.trans (hb.mono hR.size), hb⟩⟩
        iterate 6
          refine ex_pure (c := ?_) (fun W _ => Below.refl _ W) ?_ ?_
          rotate_left
          · intro a' W hR hF
            simp only [FactsOf, List.nil_append, List.cons_append, List.getD_cons_zero, List.getD_cons_succ, exists_eq_left, and_true, List.getElem?_toArray, List.getElem?_cons_zero, List.getElem?_cons_succ] at hF
            have k30 := (hR.cell (p := ⟨p3, 0, none⟩) HL.out.1).trans HC.out.1
            have k31 := (hR.cell (p := ⟨p3, 1, none⟩) HL.out.1).trans HC.out.2.1
            have k40 := (hR.cell (p := ⟨p4, 0, none⟩) HL.out.2.1).trans HC.out.2.2.1
            have k41 := (hR.cell (p := ⟨p4, 1, none⟩) HL.out.2.1).trans HC.out.2.2.2.1
            have k70 := (hR.cell (p := ⟨p7, 0, none⟩) HL.out.2.2.1).trans HC.out.2.2.2.2.1
            have k71 := (hR.cell (p := ⟨p7, 1, none⟩) HL.out.2.2.1).trans HC.out.2.2.2.2.2.1
            have kx0 := (hR.cell (p := ⟨p12, 0, none⟩) HL.out.2.2.2).trans HC.out.2.2.2.2.2.2.1
            have kx1 := (hR.cell (p := ⟨p12, 1, none⟩) HL.out.2.2.2).trans HC.out.2.2.2.2.2.2.2
            refine ⟨?_, ?_⟩
            · simp [Region.wanted, yielded, hF]
            · go_simp
              with_reducible rfl
        iterate 3
          refine ex_pure (c := ?_) (fun W _ => Below.refl _ W) ?_ ?_
          rotate_left
          · intro a' W hR hF
            simp only [FactsOf, List.nil_append, List.cons_append, List.getD_cons_zero, List.getD_cons_succ, exists_eq_left, and_true, List.getElem?_toArray, List.getElem?_cons_zero, List.getElem?_cons_succ] at hF
            have k30 := (hR.cell (p := ⟨p3, 0, none⟩) HL.out.1).trans HC.out.1
            have k31 := (hR.cell (p := ⟨p3, 1, none⟩) HL.out.1).trans HC.out.2.1
            have k40 := (hR.cell (p := ⟨p4, 0, none⟩) HL.out.2.1).trans HC.out.2.2.1
            have k41 := (hR.cell (p := ⟨p4, 1, none⟩) HL.out.2.1).trans HC.out.2.2.2.1
            have k70 := (hR.cell (p := ⟨p7, 0, none⟩) HL.out.2.2.1).trans HC.out.2.2.2.2.1
            have k71 := (hR.cell (p := ⟨p7, 1, none⟩) HL.out.2.2.1).trans HC.out.2.2.2.2.2.1
            have kx0 := (hR.cell (p := ⟨p12, 0, none⟩) HL.out.2.2.2).trans HC.out.2.2.2.2.2.2.1
            have kx1 := (hR.cell (p := ⟨p12, 1, none⟩) HL.out.2.2.2).trans HC.out.2.2.2.2.2.2.2
            refine ⟨?_, ?_⟩
            · simp [Region.wanted, yielded, hF]
            · go_simp
              with_reducible rfl
        iterate 6
          refine ex_pure (c := ?_) (fun W _ => Below.refl _ W) ?_ ?_
          rotate_left
          · intro a' W hR hF
            simp only [FactsOf, List.nil_append, List.cons_append, List.getD_cons_zero, List.getD_cons_succ, exists_eq_left, and_true, List.getElem?_toArray, List.getElem?_cons_zero, List.getElem?_cons_succ] at hF
            have k30 := (hR.cell (p := ⟨p3, 0, none⟩) HL.out.1).trans HC.out.1
            have k31 := (hR.cell (p := ⟨p3, 1, none⟩) HL.out.1).trans HC.out.2.1
            have k40 := (hR.cell (p := ⟨p4, 0, none⟩) HL.out.2.1).trans HC.out.2.2.1
            have k41 := (hR.cell (p := ⟨p4, 1, none⟩) HL.out.2.1).trans HC.out.2.2.2.1
            have k70 := (hR.cell (p := ⟨p7, 0, none⟩) HL.out.2.2.1).trans HC.out.2.2.2.2.1
            have k71 := (hR.cell (p := ⟨p7, 1, none⟩) HL.out.2.2.1).trans HC.out.2.2.2.2.2.1
            have kx0 := (hR.cell (p := ⟨p12, 0, none⟩) HL.out.2.2.2).trans HC.out.2.2.2.2.2.2.1
            have kx1 := (hR.cell (p := ⟨p12, 1, none⟩) HL.out.2.2.2).trans HC.out.2.2.2.2.2.2.2
            refine ⟨?_, ?_⟩
            · simp [Region.wanted, yielded, hF]
            · go_simp
              with_reducible rfl
        iterate 12
          refine ex_skip (fun W _ => Below.refl _ W) ?_ ?_
          · intro a' W hR hF
            simp only [FactsOf, List.nil_append, List.cons_append, List.getD_cons_zero, List.getD_cons_succ, exists_eq_left, and_true, List.getElem?_toArray, List.getElem?_cons_zero, List.getElem?_cons_succ] at hF
            simp [Region.wanted, yielded, hF, undef]
        iterate 3
          refine ex_pure (c := ?_) (fun W _ => Below.refl _ W) ?_ ?_
          rotate_left
          · intro a' W hR hF
            simp only [FactsOf, List.nil_append, List.cons_append, List.getD_cons_zero, List.getD_cons_succ, exists_eq_left, and_true, List.getElem?_toArray, List.getElem?_cons_zero, List.getElem?_cons_succ] at hF
            have k30 := (hR.cell (p := ⟨p3, 0, none⟩) HL.out.1).trans HC.out.1
            have k31 := (hR.cell (p := ⟨p3, 1, none⟩) HL.out.1).trans HC.out.2.1
            have k40 := (hR.cell (p := ⟨p4, 0, none⟩) HL.out.2.1).trans HC.out.2.2.1
            have k41 := (hR.cell (p := ⟨p4, 1, none⟩) HL.out.2.1).trans HC.out.2.2.2.1
            have k70 := (hR.cell (p := ⟨p7, 0, none⟩) HL.out.2.2.1).trans HC.out.2.2.2.2.1
            have k71 := (hR.cell (p := ⟨p7, 1, none⟩) HL.out.2.2.1).trans HC.out.2.2.2.2.2.1
            have kx0 := (hR.cell (p := ⟨p12, 0, none⟩) HL.out.2.2.2).trans HC.out.2.2.2.2.2.2.1
            have kx1 := (hR.cell (p := ⟨p12, 1, none⟩) HL.out.2.2.2).trans HC.out.2.2.2.2.2.2.2
            refine ⟨?_, ?_⟩
            · simp [Region.wanted, yielded, hF]
            · go_simp
              with_reducible rfl
        show ∀ W, _ → _
        intro W hR
        simp only [FinOf, List.nil_append, List.cons_append, List.getD_cons_zero, List.getD_cons_succ, forall_eq, forall_exists_index, and_imp, Nat.reduceAdd, Array.getD_eq_getD_getElem?, List.getElem?_toArray, List.getElem?_cons_zero, List.getElem?_cons_succ, Option.getD_some]
        go_wp2
        go_ret
        exact ⟨rfl, HB.out.trans (hR.mono HB.out.size)⟩
    · have hha : ¬ Has (a1, a2) c := fun h => hok h.1
      have hM1 : ∀ W : World, Calls Try.prog 19 #[.agg #[.int .i64 a1, .int .i64 a2], .agg #[.int .i64 b1, .int .i64 b2]] W fun e w' => e = .returned (.tuple #[.agg #[.int .i64 0, .int .i64 0], .bool false]) ∧ Below W.heap.size W w' := fun W => by have := gM1 W; rw [ho] at this; exact this
      have hM2 : ∀ W : World, Calls Try.prog 19 #[.agg #[.int .i64 b1, .int .i64 b2], .agg #[.int .i64 a1, .int .i64 a2]] W fun e w' => e = .returned (.tuple #[.agg #[.int .i64 0, .int .i64 0], .bool false]) ∧ Below W.heap.size W w' := fun W => by have := gM2 W; rw [ho] at this; exact this
      have hMs : ∀ W : World, Calls Try.prog 20 #[.agg #[.int .i64 a1, .int .i64 a2], .agg #[.int .i64 b1, .int .i64 b2]] W fun e w' => e = .returned (.bool false) ∧ Below W.heap.size W w' := fun W => by have := gMs W; rw [ho] at this; exact this
      have hHa : ∀ W : World, Calls Try.prog 16 #[.agg #[.int .i64 a1, .int .i64 a2], .int .i64 c] W fun e w' => e = .returned (.bool false) ∧ Below W.heap.size W w' := fun W => by have := gHa W; rwa [decide_eq_false hha] at this
      have hV : ∀ W : World, Calls Try.prog 15 #[.agg #[.int .i64 a1, .int .i64 a2]] W fun e w' => e = .returned (.bool false) ∧ Below W.heap.size W w' := fun W => by have := gV W; rwa [decide_eq_false hok] at this
      have hMa : ∀ W : World, Calls Try.prog 19 #[.agg #[.int .i64 a1, .int .i64 a2], .agg #[.int .i64 a1, .int .i64 a2]] W fun e w' => e = .returned (.tuple #[.agg #[.int .i64 0, .int .i64 0], .bool false]) ∧ Below W.heap.size W w' := fun W => by have := gMa W; rw [if_neg hok] at this; exact this
      clear hno hha hok ho ha hb
      clear gV gHa gHb gM1 gM2 gMs gMa gLa gLb
      obtain ⟨p3, hp3⟩ : ∃ p, p = w.heap.size := ⟨_, rfl⟩
      obtain ⟨p4, hp4⟩ : ∃ p, p = w.heap.size + 1 := ⟨_, rfl⟩
      obtain ⟨w2, hw2⟩ : ∃ w', w' = (w.alloc (.cells #[.int .i64 a1, .int .i64 a2] 31)).alloc (.cells #[.int .i64 b1, .int .i64 b2] 31) := ⟨_, rfl⟩
      have H3_2 : Hid (Sits w2 p3 31 #[.int .i64 a1, .int .i64 a2]) := Lib.hid (by rw [hw2, hp3]; exact (Sits.fresh w _ _).alloc _)
      have H4_2 : Hid (Sits w2 p4 31 #[.int .i64 b1, .int .i64 b2]) := Lib.hid (by
        have := Sits.fresh (w.alloc (.cells #[.int .i64 a1, .int .i64 a2] 31)) 31 #[.int .i64 b1, .int .i64 b2]
        rw [World.size_alloc, ← hp4] at this
        rw [hw2]
        exact this)
      have HB2 : Hid (Below w.heap.size w w2) := Lib.hid (by
        rw [hw2]
        have b1 := (Below.refl w.heap.size w).alloc (Nat.le_refl _) (.cells #[.int .i64 a1, .int .i64 a2] 31)
        exact b1.alloc b1.size _)
      go_enter Try.func6, Try.ntmps6
      go_wp2_with fail
      rw [← hw2, ← hp4, ← hp3]
      clear hw2 hp3 hp4
      refine (hM1 _).mono ?_
      rintro e w3 ⟨rfl, hb⟩
      have H3_3 := Lib.hid (H3_2.out.below' hb)
      have H4_3 := Lib.hid (H4_2.out.below' hb)
      have HB3 := Lib.hid (HB2.out.trans (hb.mono HB2.out.size))
      clear hb
      obtain ⟨p7, hp7⟩ : ∃ p, p = w3.heap.size := ⟨_, rfl⟩
      obtain ⟨w4, hw4⟩ : ∃ w', w' = w3.alloc (.cells #[.int .i64 0, .int .i64 0] 31) := ⟨_, rfl⟩
      have hb : Below w3.heap.size w3 w4 := hw4 ▸ (Below.refl _ w3).alloc (Nat.le_refl _) _
      have H3_4 := Lib.hid (H3_3.out.below' hb)
      have H4_4 := Lib.hid (H4_3.out.below' hb)
      have H7_4 : Hid (Sits w4 p7 31 #[.int .i64 0, .int .i64 0]) := Lib.hid (by rw [hw4, hp7]; exact Sits.fresh w3 _ _)
      have HB4 := Lib.hid (HB3.out.trans (hb.mono HB3.out.size))
      clear hb 
      have c3_0_1 := H3_4.out.cell 0
      have c3_1_1 := H3_4.out.cell 1
      have c4_0_1 := H4_4.out.cell 0
      have c4_1_1 := H4_4.out.cell 1
      have c7_0_1 := H7_4.out.cell 0
      have c7_1_1 := H7_4.out.cell 1
      simp at c3_0_1 c3_1_1 c4_0_1 c4_1_1 c7_0_1 c7_1_1
      rw [hw4] at c3_0_1 c3_1_1 c4_0_1 c4_1_1 c7_0_1 c7_1_1
      go_wp2_with fail
      rw [← hw4, ← hp7]
      clear hw4 hp7 c3_0_1 c3_1_1 c4_0_1 c4_1_1 c7_0_1 c7_1_1
      refine (hM2 _).mono ?_
      rintro e w5 ⟨rfl, hb⟩
      have H3_5 := Lib.hid (H3_4.out.below' hb)
      have H4_5 := Lib.hid (H4_4.out.below' hb)
      have H7_5 := Lib.hid (H7_4.out.below' hb)
      have HB5 := Lib.hid (HB4.out.trans (hb.mono HB4.out.size))
      clear hb
      have c3_0_2 := H3_5.out.cell 0
      have c3_1_2 := H3_5.out.cell 1
      have c4_0_2 := H4_5.out.cell 0
      have c4_1_2 := H4_5.out.cell 1
      have c7_0_2 := H7_5.out.cell 0
      have c7_1_2 := H7_5.out.cell 1
      simp at c3_0_2 c3_1_2 c4_0_2 c4_1_2 c7_0_2 c7_1_2
      obtain ⟨p9, hp9⟩ : ∃ p, p = w5.heap.size := ⟨_, rfl⟩
      obtain ⟨w6, hw6⟩ : ∃ w', w' = w5.alloc (.cells #[.int .i64 0, .int .i64 0] 31) := ⟨_, rfl⟩
      have hb : Below w5.heap.size w5 w6 := hw6 ▸ (Below.refl _ w5).alloc (Nat.le_refl _) _
      have H3_6 := Lib.hid (H3_5.out.below' hb)
      have H4_6 := Lib.hid (H4_5.out.below' hb)
      have H7_6 := Lib.hid (H7_5.out.below' hb)
      have H9_6 : Hid (Sits w6 p9 31 #[.int .i64 0, .int .i64 0]) := Lib.hid (by rw [hw6, hp9]; exact Sits.fresh w5 _ _)
      have HB6 := Lib.hid (HB5.out.trans (hb.mono HB5.out.size))
      clear hb c3_0_2 c3_1_2 c4_0_2 c4_1_2 c7_0_2 c7_1_2
      have c3_0_3 := H3_6.out.cell 0
      have c3_1_3 := H3_6.out.cell 1
      have c4_0_3 := H4_6.out.cell 0
      have c4_1_3 := H4_6.out.cell 1
      have c7_0_3 := H7_6.out.cell 0
      have c7_1_3 := H7_6.out.cell 1
      have c9_0_3 := H9_6.out.cell 0
      have c9_1_3 := H9_6.out.cell 1
      simp at c3_0_3 c3_1_3 c4_0_3 c4_1_3 c7_0_3 c7_1_3 c9_0_3 c9_1_3
      rw [hw6] at c3_0_3 c3_1_3 c4_0_3 c4_1_3 c7_0_3 c7_1_3 c9_0_3 c9_1_3
      go_wp2_with fail
      rw [← hw6, ← hp9]
      clear hw6 hp9 c3_0_3 c3_1_3 c4_0_3 c4_1_3 c7_0_3 c7_1_3 c9_0_3 c9_1_3
      refine (hHa _).mono ?_
      rintro e w7 ⟨rfl, hb⟩
      have H3_7 := Lib.hid (H3_6.out.below' hb)
      have H4_7 := Lib.hid (H4_6.out.below' hb)
      have H7_7 := Lib.hid (H7_6.out.below' hb)
      have H9_7 := Lib.hid (H9_6.out.below' hb)
      have HB7 := Lib.hid (HB6.out.trans (hb.mono HB6.out.size))
      clear hb
      have c3_0_4 := H3_7.out.cell 0
      have c3_1_4 := H3_7.out.cell 1
      have c4_0_4 := H4_7.out.cell 0
      have c4_1_4 := H4_7.out.cell 1
      have c7_0_4 := H7_7.out.cell 0
      have c7_1_4 := H7_7.out.cell 1
      have c9_0_4 := H9_7.out.cell 0
      have c9_1_4 := H9_7.out.cell 1
      simp at c3_0_4 c3_1_4 c4_0_4 c4_1_4 c7_0_4 c7_1_4 c9_0_4 c9_1_4
      go_wp2_with fail
      clear c3_0_4 c3_1_4 c4_0_4 c4_1_4 c7_0_4 c7_1_4 c9_0_4 c9_1_4
      refine (hMs _).mono ?_
      rintro e w8 ⟨rfl, hb⟩
      have H3_8 := Lib.hid (H3_7.out.below' hb)
      have H4_8 := Lib.hid (H4_7.out.below' hb)
      have H7_8 := Lib.hid (H7_7.out.below' hb)
      have H9_8 := Lib.hid (H9_7.out.below' hb)
      have HB8 := Lib.hid (HB7.out.trans (hb.mono HB7.out.size))
      clear hb
      have c3_0_5 := H3_8.out.cell 0
      have c3_1_5 := H3_8.out.cell 1
      have c4_0_5 := H4_8.out.cell 0
      have c4_1_5 := H4_8.out.cell 1
      have c7_0_5 := H7_8.out.cell 0
      have c7_1_5 := H7_8.out.cell 1
      have c9_0_5 := H9_8.out.cell 0
      have c9_1_5 := H9_8.out.cell 1
      simp at c3_0_5 c3_1_5 c4_0_5 c4_1_5 c7_0_5 c7_1_5 c9_0_5 c9_1_5
      go_wp2_with fail
      clear c3_0_5 c3_1_5 c4_0_5 c4_1_5 c7_0_5 c7_1_5 c9_0_5 c9_1_5
      refine (hMa _).mono ?_
      rintro e w9 ⟨rfl, hb⟩
      have H3_9 := Lib.hid (H3_8.out.below' hb)
      have H4_9 := Lib.hid (H4_8.out.below' hb)
      have H7_9 := Lib.hid (H7_8.out.below' hb)
      have H9_9 := Lib.hid (H9_8.out.below' hb)
      have HB9 := Lib.hid (HB8.out.trans (hb.mono HB8.out.size))
      clear hb
      have c3_0_6 := H3_9.out.cell 0
      have c3_1_6 := H3_9.out.cell 1
      have c4_0_6 := H4_9.out.cell 0
      have c4_1_6 := H4_9.out.cell 1
      have c7_0_6 := H7_9.out.cell 0
      have c7_1_6 := H7_9.out.cell 1
      have c9_0_6 := H9_9.out.cell 0
      have c9_1_6 := H9_9.out.cell 1
      simp at c3_0_6 c3_1_6 c4_0_6 c4_1_6 c7_0_6 c7_1_6 c9_0_6 c9_1_6
      obtain ⟨p12, hp12⟩ : ∃ p, p = w9.heap.size := ⟨_, rfl⟩
      obtain ⟨w10, hw10⟩ : ∃ w', w' = w9.alloc (.cells #[.int .i64 0, .int .i64 0] 31) := ⟨_, rfl⟩
      have hb : Below w9.heap.size w9 w10 := hw10 ▸ (Below.refl _ w9).alloc (Nat.le_refl _) _
      have H3_10 := Lib.hid (H3_9.out.below' hb)
      have H4_10 := Lib.hid (H4_9.out.below' hb)
      have H7_10 := Lib.hid (H7_9.out.below' hb)
      have H9_10 := Lib.hid (H9_9.out.below' hb)
      have H12_10 : Hid (Sits w10 p12 31 #[.int .i64 0, .int .i64 0]) := Lib.hid (by rw [hw10, hp12]; exact Sits.fresh w9 _ _)
      have HB10 := Lib.hid (HB9.out.trans (hb.mono HB9.out.size))
      clear hb c3_0_6 c3_1_6 c4_0_6 c4_1_6 c7_0_6 c7_1_6 c9_0_6 c9_1_6
      have c3_0_7 := H3_10.out.cell 0
      have c3_1_7 := H3_10.out.cell 1
      have c4_0_7 := H4_10.out.cell 0
      have c4_1_7 := H4_10.out.cell 1
      have c7_0_7 := H7_10.out.cell 0
      have c7_1_7 := H7_10.out.cell 1
      have c9_0_7 := H9_10.out.cell 0
      have c9_1_7 := H9_10.out.cell 1
      have c12_0_7 := H12_10.out.cell 0
      have c12_1_7 := H12_10.out.cell 1
      simp at c3_0_7 c3_1_7 c4_0_7 c4_1_7 c7_0_7 c7_1_7 c9_0_7 c9_1_7 c12_0_7 c12_1_7
      rw [hw10] at c3_0_7 c3_1_7 c4_0_7 c4_1_7 c7_0_7 c7_1_7 c9_0_7 c9_1_7 c12_0_7 c12_1_7
      go_wp2_with fail
      rw [← hw10, ← hp12]
      clear hw10 hp12 c3_0_7 c3_1_7 c4_0_7 c4_1_7 c7_0_7 c7_1_7 c9_0_7 c9_1_7 c12_0_7 c12_1_7
      have HC := Lib.hid (And.intro (H3_10.out.cell 0) (And.intro (H3_10.out.cell 1) (And.intro (H4_10.out.cell 0) (And.intro (H4_10.out.cell 1) (And.intro (H7_10.out.cell 0) (And.intro (H7_10.out.cell 1) (And.intro (H12_10.out.cell 0) (H12_10.out.cell 1))))))))
      simp at HC
      have HL := Lib.hid (And.intro H3_10.out.lt (And.intro H4_10.out.lt (And.intro H7_10.out.lt H12_10.out.lt)))
      have HB := HB10
      refine wp_region_ex (by kernel_rfl) (fun W => Below w10.heap.size w10 W) (fun W W' => Below W.heap.size W W')
        [[], [(65, some 0)], [(13, none), (66, some 1)], [(3, none), (66, some 1)], [(66, some 1), (68, some 3)], [(66, some 1), (67, some 2), (69, some 4)], [(66, some 1), (70, some 5)], [(71, some 6)], [(13, none), (72, some 7)], [(72, some 7), (73, some 8)], [(72, some 7), (74, some 9)], [(12, none), (75, some 10)], [(3, none), (75, some 10)], [(75, some 10), (76, some 11), (77, some 12)], [(72, some 7), (75, some 10), (78, some 13)], [(72, some 7), (79, some 14)], [(80, some 15)], [(8, none), (81, some 16)], [(81, some 16), (82, some 17)], [(81, some 16), (83, some 18)], [(7, none), (84, some 19)], [(84, some 19), (85, some 20)], [(3, none), (84, some 19)], [(84, some 19), (87, some 22)], [(84, some 19), (86, some 21), (88, some 23)], [(84, some 19), (89, some 24)], [(7, none), (90, some 25)], [(90, some 25), (91, some 26)], [(4, none), (90, some 25)], [(90, some 25), (93, some 28)], [(90, some 25), (92, some 27), (94, some 29)], [(84, some 19), (90, some 25), (95, some 30)], [(81, some 16), (84, some 19), (96, some 31)], [(81, some 16), (97, some 32)], [(98, some 33)]]
        [none, none, none, none, none, none, some 34, none, none, none, none, none, none, none, none, none, none, none, none, none, none, none, none, none, none, none, none, none, none, none, none, none, none, none, none, none, none, none, none, none, none, none, none, none, none, none, none, none, none, none, none, none, none, none, none, none, none, none, none, none, none, none, none, none, none, some 0, some 1, some 2, some 3, some 4, some 5, some 6, some 7, some 8, some 9, some 10, some 11, some 12, some 13, some 14, some 15, some 16, some 17, some 18, some 19, some 20, some 21, some 22, some 23, some 24, some 25, some 26, some 27, some 28, some 29, some 30, some 31, some 32, some 33] (by kernel_rfl) (by kernel_rfl) ((Below.refl _ w10).drew) ?_
      refine ex_callx (.bool true) (fun a' W hR hF => ?_) ?_
      · simp only [FactsOf, List.nil_append, List.cons_append, List.getD_cons_zero, List.getD_cons_succ, exists_eq_left, and_true, List.getElem?_toArray, List.getElem?_cons_zero, List.getElem?_cons_succ] at hF
        exact ⟨by simp [Region.wanted, yielded, hF], 7, #[], by go_simp, (hAl W).mono fun e w' ⟨he, hb⟩ => ⟨he, hR.trans (hb.mono hR.size), hb⟩⟩
      iterate 3
        refine ex_pure (c := ?_) (fun W _ => Below.refl _ W) ?_ ?_
        rotate_left
        · intro a' W hR hF
          simp only [FactsOf, List.nil_append, List.cons_append, List.getD_cons_zero, List.getD_cons_succ, exists_eq_left, and_true, List.getElem?_toArray, List.getElem?_cons_zero, List.getElem?_cons_succ] at hF
          have k30 := (hR.cell (p := ⟨p3, 0, none⟩) HL.out.1).trans HC.out.1
          have k31 := (hR.cell (p := ⟨p3, 1, none⟩) HL.out.1).trans HC.out.2.1
          have k40 := (hR.cell (p := ⟨p4, 0, none⟩) HL.out.2.1).trans HC.out.2.2.1
          have k41 := (hR.cell (p := ⟨p4, 1, none⟩) HL.out.2.1).trans HC.out.2.2.2.1
          have k70 := (hR.cell (p := ⟨p7, 0, none⟩) HL.out.2.2.1).trans HC.out.2.2.2.2.1
          have k71 := (hR.cell (p := ⟨p7, 1, none⟩) HL.out.2.2.1).trans HC.out.2.2.2.2.2.1
          have kx0 := (hR.cell (p := ⟨p12, 0, none⟩) HL.out.2.2.2).trans HC.out.2.2.2.2.2.2.1
          have kx1 := (hR.cell (p := ⟨p12, 1, none⟩) HL.out.2.2.2).trans HC.out.2.2.2.2.2.2.2
          refine ⟨?_, ?_⟩
          · simp [Region.wanted, yielded, hF]
          · go_simp
            with_reducible rfl
      refine ex_callx (.bool false) (fun a' W hR hF => ?_) ?_
      · simp only [FactsOf, List.nil_append, List.cons_append, List.getD_cons_zero, List.getD_cons_succ, exists_eq_left, and_true, List.getElem?_toArray, List.getElem?_cons_zero, List.getElem?_cons_succ] at hF
        exact ⟨by simp [Region.wanted, yielded, hF], 15, #[.agg #[.int .i64 a1, .int .i64 a2]], by go_simp, (hV W).mono fun e w' ⟨he, hb⟩ => ⟨he, hR.trans (hb.mono hR.size), hb⟩⟩
      iterate 6
        refine ex_pure (c := ?_) (fun W _ => Below.refl _ W) ?_ ?_
        rotate_left
        · intro a' W hR hF
          simp only [FactsOf, List.nil_append, List.cons_append, List.getD_cons_zero, List.getD_cons_succ, exists_eq_left, and_true, List.getElem?_toArray, List.getElem?_cons_zero, List.getElem?_cons_succ] at hF
          have k30 := (hR.cell (p := ⟨p3, 0, none⟩) HL.out.1).trans HC.out.1
          have k31 := (hR.cell (p := ⟨p3, 1, none⟩) HL.out.1).trans HC.out.2.1
          have k40 := (hR.cell (p := ⟨p4, 0, none⟩) HL.out.2.1).trans HC.out.2.2.1
          have k41 := (hR.cell (p := ⟨p4, 1, none⟩) HL.out.2.1).trans HC.out.2.2.2.1
          have k70 := (hR.cell (p := ⟨p7, 0, none⟩) HL.out.2.2.1).trans HC.out.2.2.2.2.1
          have k71 := (hR.cell (p := ⟨p7, 1, none⟩) HL.out.2.2.1).trans HC.out.2.2.2.2.2.1
          have kx0 := (hR.cell (p := ⟨p12, 0, none⟩) HL.out.2.2.2).trans HC.out.2.2.2.2.2.2.1
          have kx1 := (hR.cell (p := ⟨p12, 1, none⟩) HL.out.2.2.2).trans HC.out.2.2.2.2.2.2.2
          refine ⟨?_, ?_⟩
          · simp [Region.wanted, yielded, hF]
          · go_simp
            with_reducible rfl
      iterate 3
        refine ex_skip (fun W _ => Below.refl _ W) ?_ ?_
        · intro a' W hR hF
          simp only [FactsOf, List.nil_append, List.cons_append, List.getD_cons_zero, List.getD_cons_succ, exists_eq_left, and_true, List.getElem?_toArray, List.getElem?_cons_zero, List.getElem?_cons_succ] at hF
          simp [Region.wanted, yielded, hF, undef]
      iterate 6
        refine ex_pure (c := ?_) (fun W _ => Below.refl _ W) ?_ ?_
        rotate_left
        · intro a' W hR hF
          simp only [FactsOf, List.nil_append, List.cons_append, List.getD_cons_zero, List.getD_cons_succ, exists_eq_left, and_true, List.getElem?_toArray, List.getElem?_cons_zero, List.getElem?_cons_succ] at hF
          have k30 := (hR.cell (p := ⟨p3, 0, none⟩) HL.out.1).trans HC.out.1
          have k31 := (hR.cell (p := ⟨p3, 1, none⟩) HL.out.1).trans HC.out.2.1
          have k40 := (hR.cell (p := ⟨p4, 0, none⟩) HL.out.2.1).trans HC.out.2.2.1
          have k41 := (hR.cell (p := ⟨p4, 1, none⟩) HL.out.2.1).trans HC.out.2.2.2.1
          have k70 := (hR.cell (p := ⟨p7, 0, none⟩) HL.out.2.2.1).trans HC.out.2.2.2.2.1
          have k71 := (hR.cell (p := ⟨p7, 1, none⟩) HL.out.2.2.1).trans HC.out.2.2.2.2.2.1
          have kx0 := (hR.cell (p := ⟨p12, 0, none⟩) HL.out.2.2.2).trans HC.out.2.2.2.2.2.2.1
          have kx1 := (hR.cell (p := ⟨p12, 1, none⟩) HL.out.2.2.2).trans HC.out.2.2.2.2.2.2.2
          refine ⟨?_, ?_⟩
          · simp [Region.wanted, yielded, hF]
          · go_simp
            with_reducible rfl
      iterate 12
        refine ex_skip (fun W _ => Below.refl _ W) ?_ ?_
        · intro a' W hR hF
          simp only [FactsOf, List.nil_append, List.cons_append, List.getD_cons_zero, List.getD_cons_succ, exists_eq_left, and_true, List.getElem?_toArray, List.getElem?_cons_zero, List.getElem?_cons_succ] at hF
          simp [Region.wanted, yielded, hF, undef]
      iterate 3
        refine ex_pure (c := ?_) (fun W _ => Below.refl _ W) ?_ ?_
        rotate_left
        · intro a' W hR hF
          simp only [FactsOf, List.nil_append, List.cons_append, List.getD_cons_zero, List.getD_cons_succ, exists_eq_left, and_true, List.getElem?_toArray, List.getElem?_cons_zero, List.getElem?_cons_succ] at hF
          have k30 := (hR.cell (p := ⟨p3, 0, none⟩) HL.out.1).trans HC.out.1
          have k31 := (hR.cell (p := ⟨p3, 1, none⟩) HL.out.1).trans HC.out.2.1
          have k40 := (hR.cell (p := ⟨p4, 0, none⟩) HL.out.2.1).trans HC.out.2.2.1
          have k41 := (hR.cell (p := ⟨p4, 1, none⟩) HL.out.2.1).trans HC.out.2.2.2.1
          have k70 := (hR.cell (p := ⟨p7, 0, none⟩) HL.out.2.2.1).trans HC.out.2.2.2.2.1
          have k71 := (hR.cell (p := ⟨p7, 1, none⟩) HL.out.2.2.1).trans HC.out.2.2.2.2.2.1
          have kx0 := (hR.cell (p := ⟨p12, 0, none⟩) HL.out.2.2.2).trans HC.out.2.2.2.2.2.2.1
          have kx1 := (hR.cell (p := ⟨p12, 1, none⟩) HL.out.2.2.2).trans HC.out.2.2.2.2.2.2.2
          refine ⟨?_, ?_⟩
          · simp [Region.wanted, yielded, hF]
          · go_simp
            with_reducible rfl
      show ∀ W, _ → _
      intro W hR
      simp only [FinOf, List.nil_append, List.cons_append, List.getD_cons_zero, List.getD_cons_succ, forall_eq, forall_exists_index, and_imp, Nat.reduceAdd, Array.getD_eq_getD_getElem?, List.getElem?_toArray, List.getElem?_cons_zero, List.getElem?_cons_succ, Option.getD_some]
      go_wp2
      go_ret
      exact ⟨rfl, HB.out.trans (hR.mono HB.out.size)⟩
  · have hsm := meet_some ho
    have hle := lenS_meet ho
    have hok : Ok (a1, a2) := ((hsm.2.2 m.1).1 ⟨hsm.1, Int.le_refl _, hsm.1.2⟩).1.1
    have hmt : m.2 ≤ top := by
      have := hsm.2.1
      rw [this]
      simp only
      omega
    obtain ⟨m1, m2⟩ := m
    have hiff := hsm.2.2 c
    by_cases hha : Has (a1, a2) c
    · by_cases hhb : Has (b1, b2) c
      · have hhm : Has (m1, m2) c := hiff.2 ⟨hha, hhb⟩
        have hM1 : ∀ W : World, Calls Try.prog 19 #[.agg #[.int .i64 a1, .int .i64 a2], .agg #[.int .i64 b1, .int .i64 b2]] W fun e w' => e = .returned (.tuple #[.agg #[.int .i64 m1, .int .i64 m2], .bool true]) ∧ Below W.heap.size W w' := fun W => by have := gM1 W; rw [ho] at this; exact this
        have hM2 : ∀ W : World, Calls Try.prog 19 #[.agg #[.int .i64 b1, .int .i64 b2], .agg #[.int .i64 a1, .int .i64 a2]] W fun e w' => e = .returned (.tuple #[.agg #[.int .i64 m1, .int .i64 m2], .bool true]) ∧ Below W.heap.size W w' := fun W => by have := gM2 W; rw [ho] at this; exact this
        have hMs : ∀ W : World, Calls Try.prog 20 #[.agg #[.int .i64 a1, .int .i64 a2], .agg #[.int .i64 b1, .int .i64 b2]] W fun e w' => e = .returned (.bool true) ∧ Below W.heap.size W w' := fun W => by have := gMs W; rw [ho] at this; exact this
        have hHa : ∀ W : World, Calls Try.prog 16 #[.agg #[.int .i64 a1, .int .i64 a2], .int .i64 c] W fun e w' => e = .returned (.bool true) ∧ Below W.heap.size W w' := fun W => by have := gHa W; rwa [decide_eq_true hha] at this
        have hHb : ∀ W : World, Calls Try.prog 16 #[.agg #[.int .i64 b1, .int .i64 b2], .int .i64 c] W fun e w' => e = .returned (.bool true) ∧ Below W.heap.size W w' := fun W => by have := gHb W; rwa [decide_eq_true hhb] at this
        have hV : ∀ W : World, Calls Try.prog 15 #[.agg #[.int .i64 a1, .int .i64 a2]] W fun e w' => e = .returned (.bool true) ∧ Below W.heap.size W w' := fun W => by have := gV W; rwa [decide_eq_true hok] at this
        have hMa : ∀ W : World, Calls Try.prog 19 #[.agg #[.int .i64 a1, .int .i64 a2], .agg #[.int .i64 a1, .int .i64 a2]] W fun e w' => e = .returned (.tuple #[.agg #[.int .i64 a1, .int .i64 a2], .bool true]) ∧ Below W.heap.size W w' := fun W => by have := gMa W; rw [if_pos hok] at this; exact this
        have hHm : ∀ W : World, Calls Try.prog 16 #[.agg #[.int .i64 m1, .int .i64 m2], .int .i64 c] W fun e w' => e = .returned (.bool true) ∧ Below W.heap.size W w' := fun W => (has_any (m1, m2) c W).mono fun e w' ⟨h1, h2⟩ => ⟨by rw [h1, decide_eq_true hhm], grown_below h2⟩
        obtain ⟨lm, hlm⟩ : ∃ lm, lm = lenS (m1, m2) := ⟨_, rfl⟩
        obtain ⟨la, hla⟩ : ∃ la, la = lenS (a1, a2) := ⟨_, rfl⟩
        obtain ⟨lb, hlb⟩ : ∃ lb, lb = lenS (b1, b2) := ⟨_, rfl⟩
        have hLm : ∀ W : World, Calls Try.prog 18 #[.agg #[.int .i64 m1, .int .i64 m2]] W fun e w' => e = .returned (.int .i64 lm) ∧ Below W.heap.size W w' := fun W => (len_any (m1, m2) hmt W).mono fun e w' ⟨h1, h2⟩ => ⟨by rw [h1, hlm], grown_below h2⟩
        have hLa : ∀ W : World, Calls Try.prog 18 #[.agg #[.int .i64 a1, .int .i64 a2]] W fun e w' => e = .returned (.int .i64 la) ∧ Below W.heap.size W w' := by rw [hla]; exact gLa
        have hLb : ∀ W : World, Calls Try.prog 18 #[.agg #[.int .i64 b1, .int .i64 b2]] W fun e w' => e = .returned (.int .i64 lb) ∧ Below W.heap.size W w' := by rw [hlb]; exact gLb
        rw [← hlm, ← hla, ← hlb] at hle
        have d1 : decide (lm ≤ la) = true := decide_eq_true hle.1
        have d2 : decide (lm ≤ lb) = true := decide_eq_true hle.2
        clear hlm hla hlb hle hsm hiff hmt hok ho ha hb hha hhm
        clear hhb
        clear gV gHa gHb gM1 gM2 gMs gMa gLa gLb
        obtain ⟨p3, hp3⟩ : ∃ p, p = w.heap.size := ⟨_, rfl⟩
        obtain ⟨p4, hp4⟩ : ∃ p, p = w.heap.size + 1 := ⟨_, rfl⟩
        obtain ⟨w2, hw2⟩ : ∃ w', w' = (w.alloc (.cells #[.int .i64 a1, .int .i64 a2] 31)).alloc (.cells #[.int .i64 b1, .int .i64 b2] 31) := ⟨_, rfl⟩
        have H3_2 : Hid (Sits w2 p3 31 #[.int .i64 a1, .int .i64 a2]) := Lib.hid (by rw [hw2, hp3]; exact (Sits.fresh w _ _).alloc _)
        have H4_2 : Hid (Sits w2 p4 31 #[.int .i64 b1, .int .i64 b2]) := Lib.hid (by
          have := Sits.fresh (w.alloc (.cells #[.int .i64 a1, .int .i64 a2] 31)) 31 #[.int .i64 b1, .int .i64 b2]
          rw [World.size_alloc, ← hp4] at this
          rw [hw2]
          exact this)
        have HB2 : Hid (Below w.heap.size w w2) := Lib.hid (by
          rw [hw2]
          have b1 := (Below.refl w.heap.size w).alloc (Nat.le_refl _) (.cells #[.int .i64 a1, .int .i64 a2] 31)
          exact b1.alloc b1.size _)
        go_enter Try.func6, Try.ntmps6
        go_wp2_with fail
        rw [← hw2, ← hp4, ← hp3]
        clear hw2 hp3 hp4
        refine (hM1 _).mono ?_
        rintro e w3 ⟨rfl, hb⟩
        have H3_3 := Lib.hid (H3_2.out.below' hb)
        have H4_3 := Lib.hid (H4_2.out.below' hb)
        have HB3 := Lib.hid (HB2.out.trans (hb.mono HB2.out.size))
        clear hb
        obtain ⟨p7, hp7⟩ : ∃ p, p = w3.heap.size := ⟨_, rfl⟩
        obtain ⟨w4, hw4⟩ : ∃ w', w' = w3.alloc (.cells #[.int .i64 m1, .int .i64 m2] 31) := ⟨_, rfl⟩
        have hb : Below w3.heap.size w3 w4 := hw4 ▸ (Below.refl _ w3).alloc (Nat.le_refl _) _
        have H3_4 := Lib.hid (H3_3.out.below' hb)
        have H4_4 := Lib.hid (H4_3.out.below' hb)
        have H7_4 : Hid (Sits w4 p7 31 #[.int .i64 m1, .int .i64 m2]) := Lib.hid (by rw [hw4, hp7]; exact Sits.fresh w3 _ _)
        have HB4 := Lib.hid (HB3.out.trans (hb.mono HB3.out.size))
        clear hb 
        have c3_0_1 := H3_4.out.cell 0
        have c3_1_1 := H3_4.out.cell 1
        have c4_0_1 := H4_4.out.cell 0
        have c4_1_1 := H4_4.out.cell 1
        have c7_0_1 := H7_4.out.cell 0
        have c7_1_1 := H7_4.out.cell 1
        simp at c3_0_1 c3_1_1 c4_0_1 c4_1_1 c7_0_1 c7_1_1
        rw [hw4] at c3_0_1 c3_1_1 c4_0_1 c4_1_1 c7_0_1 c7_1_1
        go_wp2_with fail
        rw [← hw4, ← hp7]
        clear hw4 hp7 c3_0_1 c3_1_1 c4_0_1 c4_1_1 c7_0_1 c7_1_1
        refine (hM2 _).mono ?_
        rintro e w5 ⟨rfl, hb⟩
        have H3_5 := Lib.hid (H3_4.out.below' hb)
        have H4_5 := Lib.hid (H4_4.out.below' hb)
        have H7_5 := Lib.hid (H7_4.out.below' hb)
        have HB5 := Lib.hid (HB4.out.trans (hb.mono HB4.out.size))
        clear hb
        have c3_0_2 := H3_5.out.cell 0
        have c3_1_2 := H3_5.out.cell 1
        have c4_0_2 := H4_5.out.cell 0
        have c4_1_2 := H4_5.out.cell 1
        have c7_0_2 := H7_5.out.cell 0
        have c7_1_2 := H7_5.out.cell 1
        simp at c3_0_2 c3_1_2 c4_0_2 c4_1_2 c7_0_2 c7_1_2
        obtain ⟨p9, hp9⟩ : ∃ p, p = w5.heap.size := ⟨_, rfl⟩
        obtain ⟨w6, hw6⟩ : ∃ w', w' = w5.alloc (.cells #[.int .i64 m1, .int .i64 m2] 31) := ⟨_, rfl⟩
        have hb : Below w5.heap.size w5 w6 := hw6 ▸ (Below.refl _ w5).alloc (Nat.le_refl _) _
        have H3_6 := Lib.hid (H3_5.out.below' hb)
        have H4_6 := Lib.hid (H4_5.out.below' hb)
        have H7_6 := Lib.hid (H7_5.out.below' hb)
        have H9_6 : Hid (Sits w6 p9 31 #[.int .i64 m1, .int .i64 m2]) := Lib.hid (by rw [hw6, hp9]; exact Sits.fresh w5 _ _)
        have HB6 := Lib.hid (HB5.out.trans (hb.mono HB5.out.size))
        clear hb c3_0_2 c3_1_2 c4_0_2 c4_1_2 c7_0_2 c7_1_2
        have c3_0_3 := H3_6.out.cell 0
        have c3_1_3 := H3_6.out.cell 1
        have c4_0_3 := H4_6.out.cell 0
        have c4_1_3 := H4_6.out.cell 1
        have c7_0_3 := H7_6.out.cell 0
        have c7_1_3 := H7_6.out.cell 1
        have c9_0_3 := H9_6.out.cell 0
        have c9_1_3 := H9_6.out.cell 1
        simp at c3_0_3 c3_1_3 c4_0_3 c4_1_3 c7_0_3 c7_1_3 c9_0_3 c9_1_3
        rw [hw6] at c3_0_3 c3_1_3 c4_0_3 c4_1_3 c7_0_3 c7_1_3 c9_0_3 c9_1_3
        go_wp2_with fail
        rw [← hw6, ← hp9]
        clear hw6 hp9 c3_0_3 c3_1_3 c4_0_3 c4_1_3 c7_0_3 c7_1_3 c9_0_3 c9_1_3
        refine (hHa _).mono ?_
        rintro e w7 ⟨rfl, hb⟩
        have H3_7 := Lib.hid (H3_6.out.below' hb)
        have H4_7 := Lib.hid (H4_6.out.below' hb)
        have H7_7 := Lib.hid (H7_6.out.below' hb)
        have H9_7 := Lib.hid (H9_6.out.below' hb)
        have HB7 := Lib.hid (HB6.out.trans (hb.mono HB6.out.size))
        clear hb
        have c3_0_4 := H3_7.out.cell 0
        have c3_1_4 := H3_7.out.cell 1
        have c4_0_4 := H4_7.out.cell 0
        have c4_1_4 := H4_7.out.cell 1
        have c7_0_4 := H7_7.out.cell 0
        have c7_1_4 := H7_7.out.cell 1
        have c9_0_4 := H9_7.out.cell 0
        have c9_1_4 := H9_7.out.cell 1
        simp at c3_0_4 c3_1_4 c4_0_4 c4_1_4 c7_0_4 c7_1_4 c9_0_4 c9_1_4
        go_wp2_with fail
        clear c3_0_4 c3_1_4 c4_0_4 c4_1_4 c7_0_4 c7_1_4 c9_0_4 c9_1_4
        refine (hHb _).mono ?_
        rintro e w8 ⟨rfl, hb⟩
        have H3_8 := Lib.hid (H3_7.out.below' hb)
        have H4_8 := Lib.hid (H4_7.out.below' hb)
        have H7_8 := Lib.hid (H7_7.out.below' hb)
        have H9_8 := Lib.hid (H9_7.out.below' hb)
        have HB8 := Lib.hid (HB7.out.trans (hb.mono HB7.out.size))
        clear hb
        have c3_0_5 := H3_8.out.cell 0
        have c3_1_5 := H3_8.out.cell 1
        have c4_0_5 := H4_8.out.cell 0
        have c4_1_5 := H4_8.out.cell 1
        have c7_0_5 := H7_8.out.cell 0
        have c7_1_5 := H7_8.out.cell 1
        have c9_0_5 := H9_8.out.cell 0
        have c9_1_5 := H9_8.out.cell 1
        simp at c3_0_5 c3_1_5 c4_0_5 c4_1_5 c7_0_5 c7_1_5 c9_0_5 c9_1_5
        go_wp2_with fail
        clear c3_0_5 c3_1_5 c4_0_5 c4_1_5 c7_0_5 c7_1_5 c9_0_5 c9_1_5
        refine (hMs _).mono ?_
        rintro e w9 ⟨rfl, hb⟩
        have H3_9 := Lib.hid (H3_8.out.below' hb)
        have H4_9 := Lib.hid (H4_8.out.below' hb)
        have H7_9 := Lib.hid (H7_8.out.below' hb)
        have H9_9 := Lib.hid (H9_8.out.below' hb)
        have HB9 := Lib.hid (HB8.out.trans (hb.mono HB8.out.size))
        clear hb
        have c3_0_6 := H3_9.out.cell 0
        have c3_1_6 := H3_9.out.cell 1
        have c4_0_6 := H4_9.out.cell 0
        have c4_1_6 := H4_9.out.cell 1
        have c7_0_6 := H7_9.out.cell 0
        have c7_1_6 := H7_9.out.cell 1
        have c9_0_6 := H9_9.out.cell 0
        have c9_1_6 := H9_9.out.cell 1
        simp at c3_0_6 c3_1_6 c4_0_6 c4_1_6 c7_0_6 c7_1_6 c9_0_6 c9_1_6
        go_wp2_with fail
        clear c3_0_6 c3_1_6 c4_0_6 c4_1_6 c7_0_6 c7_1_6 c9_0_6 c9_1_6
        refine (hHm _).mono ?_
        rintro e w10 ⟨rfl, hb⟩
        have H3_10 := Lib.hid (H3_9.out.below' hb)
        have H4_10 := Lib.hid (H4_9.out.below' hb)
        have H7_10 := Lib.hid (H7_9.out.below' hb)
        have H9_10 := Lib.hid (H9_9.out.below' hb)
        have HB10 := Lib.hid (HB9.out.trans (hb.mono HB9.out.size))
        clear hb
        have c3_0_7 := H3_10.out.cell 0
        have c3_1_7 := H3_10.out.cell 1
        have c4_0_7 := H4_10.out.cell 0
        have c4_1_7 := H4_10.out.cell 1
        have c7_0_7 := H7_10.out.cell 0
        have c7_1_7 := H7_10.out.cell 1
        have c9_0_7 := H9_10.out.cell 0
        have c9_1_7 := H9_10.out.cell 1
        simp at c3_0_7 c3_1_7 c4_0_7 c4_1_7 c7_0_7 c7_1_7 c9_0_7 c9_1_7
        go_wp2_with fail
        clear c3_0_7 c3_1_7 c4_0_7 c4_1_7 c7_0_7 c7_1_7 c9_0_7 c9_1_7
        refine (hMa _).mono ?_
        rintro e w11 ⟨rfl, hb⟩
        have H3_11 := Lib.hid (H3_10.out.below' hb)
        have H4_11 := Lib.hid (H4_10.out.below' hb)
        have H7_11 := Lib.hid (H7_10.out.below' hb)
        have H9_11 := Lib.hid (H9_10.out.below' hb)
        have HB11 := Lib.hid (HB10.out.trans (hb.mono HB10.out.size))
        clear hb
        have c3_0_8 := H3_11.out.cell 0
        have c3_1_8 := H3_11.out.cell 1
        have c4_0_8 := H4_11.out.cell 0
        have c4_1_8 := H4_11.out.cell 1
        have c7_0_8 := H7_11.out.cell 0
        have c7_1_8 := H7_11.out.cell 1
        have c9_0_8 := H9_11.out.cell 0
        have c9_1_8 := H9_11.out.cell 1
        simp at c3_0_8 c3_1_8 c4_0_8 c4_1_8 c7_0_8 c7_1_8 c9_0_8 c9_1_8
        obtain ⟨p12, hp12⟩ : ∃ p, p = w11.heap.size := ⟨_, rfl⟩
        obtain ⟨w12, hw12⟩ : ∃ w', w' = w11.alloc (.cells #[.int .i64 a1, .int .i64 a2] 31) := ⟨_, rfl⟩
        have hb : Below w11.heap.size w11 w12 := hw12 ▸ (Below.refl _ w11).alloc (Nat.le_refl _) _
        have H3_12 := Lib.hid (H3_11.out.below' hb)
        have H4_12 := Lib.hid (H4_11.out.below' hb)
        have H7_12 := Lib.hid (H7_11.out.below' hb)
        have H9_12 := Lib.hid (H9_11.out.below' hb)
        have H12_12 : Hid (Sits w12 p12 31 #[.int .i64 a1, .int .i64 a2]) := Lib.hid (by rw [hw12, hp12]; exact Sits.fresh w11 _ _)
        have HB12 := Lib.hid (HB11.out.trans (hb.mono HB11.out.size))
        clear hb c3_0_8 c3_1_8 c4_0_8 c4_1_8 c7_0_8 c7_1_8 c9_0_8 c9_1_8
        have c3_0_9 := H3_12.out.cell 0
        have c3_1_9 := H3_12.out.cell 1
        have c4_0_9 := H4_12.out.cell 0
        have c4_1_9 := H4_12.out.cell 1
        have c7_0_9 := H7_12.out.cell 0
        have c7_1_9 := H7_12.out.cell 1
        have c9_0_9 := H9_12.out.cell 0
        have c9_1_9 := H9_12.out.cell 1
        have c12_0_9 := H12_12.out.cell 0
        have c12_1_9 := H12_12.out.cell 1
        simp at c3_0_9 c3_1_9 c4_0_9 c4_1_9 c7_0_9 c7_1_9 c9_0_9 c9_1_9 c12_0_9 c12_1_9
        rw [hw12] at c3_0_9 c3_1_9 c4_0_9 c4_1_9 c7_0_9 c7_1_9 c9_0_9 c9_1_9 c12_0_9 c12_1_9
        go_wp2_with fail
        rw [← hw12, ← hp12]
        clear hw12 hp12 c3_0_9 c3_1_9 c4_0_9 c4_1_9 c7_0_9 c7_1_9 c9_0_9 c9_1_9 c12_0_9 c12_1_9
        have HC := Lib.hid (And.intro (H3_12.out.cell 0) (And.intro (H3_12.out.cell 1) (And.intro (H4_12.out.cell 0) (And.intro (H4_12.out.cell 1) (And.intro (H7_12.out.cell 0) (And.intro (H7_12.out.cell 1) (And.intro (H12_12.out.cell 0) (H12_12.out.cell 1))))))))
        simp at HC
        have HL := Lib.hid (And.intro H3_12.out.lt (And.intro H4_12.out.lt (And.intro H7_12.out.lt H12_12.out.lt)))
        have HB := HB12
        refine wp_region_ex (by kernel_rfl) (fun W => Below w12.heap.size w12 W) (fun W W' => Below W.heap.size W W')
          [[], [(65, some 0)], [(13, none), (66, some 1)], [(3, none), (66, some 1)], [(66, some 1), (68, some 3)], [(66, some 1), (67, some 2), (69, some 4)], [(66, some 1), (70, some 5)], [(71, some 6)], [(13, none), (72, some 7)], [(72, some 7), (73, some 8)], [(72, some 7), (74, some 9)], [(12, none), (75, some 10)], [(3, none), (75, some 10)], [(75, some 10), (76, some 11), (77, some 12)], [(72, some 7), (75, some 10), (78, some 13)], [(72, some 7), (79, some 14)], [(80, some 15)], [(8, none), (81, some 16)], [(81, some 16), (82, some 17)], [(81, some 16), (83, some 18)], [(7, none), (84, some 19)], [(84, some 19), (85, some 20)], [(3, none), (84, some 19)], [(84, some 19), (87, some 22)], [(84, some 19), (86, some 21), (88, some 23)], [(84, some 19), (89, some 24)], [(7, none), (90, some 25)], [(90, some 25), (91, some 26)], [(4, none), (90, some 25)], [(90, some 25), (93, some 28)], [(90, some 25), (92, some 27), (94, some 29)], [(84, some 19), (90, some 25), (95, some 30)], [(81, some 16), (84, some 19), (96, some 31)], [(81, some 16), (97, some 32)], [(98, some 33)]]
          [none, none, none, none, none, none, some 34, none, none, none, none, none, none, none, none, none, none, none, none, none, none, none, none, none, none, none, none, none, none, none, none, none, none, none, none, none, none, none, none, none, none, none, none, none, none, none, none, none, none, none, none, none, none, none, none, none, none, none, none, none, none, none, none, none, none, some 0, some 1, some 2, some 3, some 4, some 5, some 6, some 7, some 8, some 9, some 10, some 11, some 12, some 13, some 14, some 15, some 16, some 17, some 18, some 19, some 20, some 21, some 22, some 23, some 24, some 25, some 26, some 27, some 28, some 29, some 30, some 31, some 32, some 33] (by kernel_rfl) (by kernel_rfl) ((Below.refl _ w12).drew) ?_
        refine ex_callx (.bool true) (fun a' W hR hF => ?_) ?_
        · simp only [FactsOf, List.nil_append, List.cons_append, List.getD_cons_zero, List.getD_cons_succ, exists_eq_left, and_true, List.getElem?_toArray, List.getElem?_cons_zero, List.getElem?_cons_succ] at hF
          exact ⟨by simp [Region.wanted, yielded, hF], 7, #[], by go_simp, (hAl W).mono fun e w' ⟨he, hb⟩ => ⟨he, hR.trans (hb.mono hR.size), hb⟩⟩
        iterate 3
          refine ex_pure (c := ?_) (fun W _ => Below.refl _ W) ?_ ?_
          rotate_left
          · intro a' W hR hF
            simp only [FactsOf, List.nil_append, List.cons_append, List.getD_cons_zero, List.getD_cons_succ, exists_eq_left, and_true, List.getElem?_toArray, List.getElem?_cons_zero, List.getElem?_cons_succ] at hF
            have k30 := (hR.cell (p := ⟨p3, 0, none⟩) HL.out.1).trans HC.out.1
            have k31 := (hR.cell (p := ⟨p3, 1, none⟩) HL.out.1).trans HC.out.2.1
            have k40 := (hR.cell (p := ⟨p4, 0, none⟩) HL.out.2.1).trans HC.out.2.2.1
            have k41 := (hR.cell (p := ⟨p4, 1, none⟩) HL.out.2.1).trans HC.out.2.2.2.1
            have k70 := (hR.cell (p := ⟨p7, 0, none⟩) HL.out.2.2.1).trans HC.out.2.2.2.2.1
            have k71 := (hR.cell (p := ⟨p7, 1, none⟩) HL.out.2.2.1).trans HC.out.2.2.2.2.2.1
            have kx0 := (hR.cell (p := ⟨p12, 0, none⟩) HL.out.2.2.2).trans HC.out.2.2.2.2.2.2.1
            have kx1 := (hR.cell (p := ⟨p12, 1, none⟩) HL.out.2.2.2).trans HC.out.2.2.2.2.2.2.2
            refine ⟨?_, ?_⟩
            · simp [Region.wanted, yielded, hF]
            · go_simp
              with_reducible rfl
        refine ex_callx (.bool true) (fun a' W hR hF => ?_) ?_
        · simp only [FactsOf, List.nil_append, List.cons_append, List.getD_cons_zero, List.getD_cons_succ, exists_eq_left, and_true, List.getElem?_toArray, List.getElem?_cons_zero, List.getElem?_cons_succ] at hF
          exact ⟨by simp [Region.wanted, yielded, hF], 15, #[.agg #[.int .i64 a1, .int .i64 a2]], by go_simp, (hV W).mono fun e w' ⟨he, hb⟩ => ⟨he, hR.trans (hb.mono hR.size), hb⟩⟩
        iterate 6
          refine ex_pure (c := ?_) (fun W _ => Below.refl _ W) ?_ ?_
          rotate_left
          · intro a' W hR hF
            simp only [FactsOf, List.nil_append, List.cons_append, List.getD_cons_zero, List.getD_cons_succ, exists_eq_left, and_true, List.getElem?_toArray, List.getElem?_cons_zero, List.getElem?_cons_succ] at hF
            have k30 := (hR.cell (p := ⟨p3, 0, none⟩) HL.out.1).trans HC.out.1
            have k31 := (hR.cell (p := ⟨p3, 1, none⟩) HL.out.1).trans HC.out.2.1
            have k40 := (hR.cell (p := ⟨p4, 0, none⟩) HL.out.2.1).trans HC.out.2.2.1
            have k41 := (hR.cell (p := ⟨p4, 1, none⟩) HL.out.2.1).trans HC.out.2.2.2.1
            have k70 := (hR.cell (p := ⟨p7, 0, none⟩) HL.out.2.2.1).trans HC.out.2.2.2.2.1
            have k71 := (hR.cell (p := ⟨p7, 1, none⟩) HL.out.2.2.1).trans HC.out.2.2.2.2.2.1
            have kx0 := (hR.cell (p := ⟨p12, 0, none⟩) HL.out.2.2.2).trans HC.out.2.2.2.2.2.2.1
            have kx1 := (hR.cell (p := ⟨p12, 1, none⟩) HL.out.2.2.2).trans HC.out.2.2.2.2.2.2.2
            refine ⟨?_, ?_⟩
            · simp [Region.wanted, yielded, hF]
            · go_simp
              with_reducible rfl
        iterate 3
          refine ex_pure (c := ?_) (fun W _ => Below.refl _ W) ?_ ?_
          rotate_left
          · intro a' W hR hF
            simp only [FactsOf, List.nil_append, List.cons_append, List.getD_cons_zero, List.getD_cons_succ, exists_eq_left, and_true, List.getElem?_toArray, List.getElem?_cons_zero, List.getElem?_cons_succ] at hF
            have k30 := (hR.cell (p := ⟨p3, 0, none⟩) HL.out.1).trans HC.out.1
            have k31 := (hR.cell (p := ⟨p3, 1, none⟩) HL.out.1).trans HC.out.2.1
            have k40 := (hR.cell (p := ⟨p4, 0, none⟩) HL.out.2.1).trans HC.out.2.2.1
            have k41 := (hR.cell (p := ⟨p4, 1, none⟩) HL.out.2.1).trans HC.out.2.2.2.1
            have k70 := (hR.cell (p := ⟨p7, 0, none⟩) HL.out.2.2.1).trans HC.out.2.2.2.2.1
            have k71 := (hR.cell (p := ⟨p7, 1, none⟩) HL.out.2.2.1).trans HC.out.2.2.2.2.2.1
            have kx0 := (hR.cell (p := ⟨p12, 0, none⟩) HL.out.2.2.2).trans HC.out.2.2.2.2.2.2.1
            have kx1 := (hR.cell (p := ⟨p12, 1, none⟩) HL.out.2.2.2).trans HC.out.2.2.2.2.2.2.2
            refine ⟨?_, ?_⟩
            · simp [Region.wanted, yielded, hF]
            · go_simp
              with_reducible rfl
        iterate 6
          refine ex_pure (c := ?_) (fun W _ => Below.refl _ W) ?_ ?_
          rotate_left
          · intro a' W hR hF
            simp only [FactsOf, List.nil_append, List.cons_append, List.getD_cons_zero, List.getD_cons_succ, exists_eq_left, and_true, List.getElem?_toArray, List.getElem?_cons_zero, List.getElem?_cons_succ] at hF
            have k30 := (hR.cell (p := ⟨p3, 0, none⟩) HL.out.1).trans HC.out.1
            have k31 := (hR.cell (p := ⟨p3, 1, none⟩) HL.out.1).trans HC.out.2.1
            have k40 := (hR.cell (p := ⟨p4, 0, none⟩) HL.out.2.1).trans HC.out.2.2.1
            have k41 := (hR.cell (p := ⟨p4, 1, none⟩) HL.out.2.1).trans HC.out.2.2.2.1
            have k70 := (hR.cell (p := ⟨p7, 0, none⟩) HL.out.2.2.1).trans HC.out.2.2.2.2.1
            have k71 := (hR.cell (p := ⟨p7, 1, none⟩) HL.out.2.2.1).trans HC.out.2.2.2.2.2.1
            have kx0 := (hR.cell (p := ⟨p12, 0, none⟩) HL.out.2.2.2).trans HC.out.2.2.2.2.2.2.1
            have kx1 := (hR.cell (p := ⟨p12, 1, none⟩) HL.out.2.2.2).trans HC.out.2.2.2.2.2.2.2
            refine ⟨?_, ?_⟩
            · simp [Region.wanted, yielded, hF]
            · go_simp
              with_reducible rfl
        refine ex_pure (c := ?_) (fun W _ => Below.refl _ W) ?_ ?_
        rotate_left
        · intro a' W hR hF
          simp only [FactsOf, List.nil_append, List.cons_append, List.getD_cons_zero, List.getD_cons_succ, exists_eq_left, and_true, List.getElem?_toArray, List.getElem?_cons_zero, List.getElem?_cons_succ] at hF
          have k30 := (hR.cell (p := ⟨p3, 0, none⟩) HL.out.1).trans HC.out.1
          have k31 := (hR.cell (p := ⟨p3, 1, none⟩) HL.out.1).trans HC.out.2.1
          have k40 := (hR.cell (p := ⟨p4, 0, none⟩) HL.out.2.1).trans HC.out.2.2.1
          have k41 := (hR.cell (p := ⟨p4, 1, none⟩) HL.out.2.1).trans HC.out.2.2.2.1
          have k70 := (hR.cell (p := ⟨p7, 0, none⟩) HL.out.2.2.1).trans HC.out.2.2.2.2.1
          have k71 := (hR.cell (p := ⟨p7, 1, none⟩) HL.out.2.2.1).trans HC.out.2.2.2.2.2.1
          have kx0 := (hR.cell (p := ⟨p12, 0, none⟩) HL.out.2.2.2).trans HC.out.2.2.2.2.2.2.1
          have kx1 := (hR.cell (p := ⟨p12, 1, none⟩) HL.out.2.2.2).trans HC.out.2.2.2.2.2.2.2
          refine ⟨?_, ?_⟩
          · simp [Region.wanted, yielded, hF]
          · go_simp
            with_reducible rfl
        refine ex_callx (.int .i64 lm) (fun a' W hR hF => ?_) ?_
        · simp only [FactsOf, List.nil_append, List.cons_append, List.getD_cons_zero, List.getD_cons_succ, exists_eq_left, and_true, List.getElem?_toArray, List.getElem?_cons_zero, List.getElem?_cons_succ] at hF
          exact ⟨by simp [Region.wanted, yielded, hF], 18, #[.agg #[.int .i64 m1, .int .i64 m2]], by go_simp, (hLm W).mono fun e w' ⟨he, hb⟩ => ⟨he, hR.trans (hb.mono hR.size), hb⟩⟩
        refine ex_pure (c := ?_) (fun W _ => Below.refl _ W) ?_ ?_
        rotate_left
        · intro a' W hR hF
          simp only [FactsOf, List.nil_append, List.cons_append, List.getD_cons_zero, List.getD_cons_succ, exists_eq_left, and_true, List.getElem?_toArray, List.getElem?_cons_zero, List.getElem?_cons_succ] at hF
          have k30 := (hR.cell (p := ⟨p3, 0, none⟩) HL.out.1).trans HC.out.1
          have k31 := (hR.cell (p := ⟨p3, 1, none⟩) HL.out.1).trans HC.out.2.1
          have k40 := (hR.cell (p := ⟨p4, 0, none⟩) HL.out.2.1).trans HC.out.2.2.1
          have k41 := (hR.cell (p := ⟨p4, 1, none⟩) HL.out.2.1).trans HC.out.2.2.2.1
          have k70 := (hR.cell (p := ⟨p7, 0, none⟩) HL.out.2.2.1).trans HC.out.2.2.2.2.1
          have k71 := (hR.cell (p := ⟨p7, 1, none⟩) HL.out.2.2.1).trans HC.out.2.2.2.2.2.1
          have kx0 := (hR.cell (p := ⟨p12, 0, none⟩) HL.out.2.2.2).trans HC.out.2.2.2.2.2.2.1
          have kx1 := (hR.cell (p := ⟨p12, 1, none⟩) HL.out.2.2.2).trans HC.out.2.2.2.2.2.2.2
          refine ⟨?_, ?_⟩
          · simp [Region.wanted, yielded, hF]
          · go_simp
            with_reducible rfl
        refine ex_callx (.int .i64 la) (fun a' W hR hF => ?_) ?_
        · simp only [FactsOf, List.nil_append, List.cons_append, List.getD_cons_zero, List.getD_cons_succ, exists_eq_left, and_true, List.getElem?_toArray, List.getElem?_cons_zero, List.getElem?_cons_succ] at hF
          exact ⟨by simp [Region.wanted, yielded, hF], 18, #[.agg #[.int .i64 a1, .int .i64 a2]], by go_simp, (hLa W).mono fun e w' ⟨he, hb⟩ => ⟨he, hR.trans (hb.mono hR.size), hb⟩⟩
        iterate 3
          refine ex_pure (c := ?_) (fun W _ => Below.refl _ W) ?_ ?_
          rotate_left
          · intro a' W hR hF
            simp only [FactsOf, List.nil_append, List.cons_append, List.getD_cons_zero, List.getD_cons_succ, exists_eq_left, and_true, List.getElem?_toArray, List.getElem?_cons_zero, List.getElem?_cons_succ] at hF
            have k30 := (hR.cell (p := ⟨p3, 0, none⟩) HL.out.1).trans HC.out.1
            have k31 := (hR.cell (p := ⟨p3, 1, none⟩) HL.out.1).trans HC.out.2.1
            have k40 := (hR.cell (p := ⟨p4, 0, none⟩) HL.out.2.1).trans HC.out.2.2.1
            have k41 := (hR.cell (p := ⟨p4, 1, none⟩) HL.out.2.1).trans HC.out.2.2.2.1
            have k70 := (hR.cell (p := ⟨p7, 0, none⟩) HL.out.2.2.1).trans HC.out.2.2.2.2.1
            have k71 := (hR.cell (p := ⟨p7, 1, none⟩) HL.out.2.2.1).trans HC.out.2.2.2.2.2.1
            have kx0 := (hR.cell (p := ⟨p12, 0, none⟩) HL.out.2.2.2).trans HC.out.2.2.2.2.2.2.1
            have kx1 := (hR.cell (p := ⟨p12, 1, none⟩) HL.out.2.2.2).trans HC.out.2.2.2.2.2.2.2
            refine ⟨?_, ?_⟩
            · simp [Region.wanted, yielded, hF]
            · go_simp
              with_reducible rfl
        refine ex_callx (.int .i64 lm) (fun a' W hR hF => ?_) ?_
        · simp only [FactsOf, List.nil_append, List.cons_append, List.getD_cons_zero, List.getD_cons_succ, exists_eq_left, and_true, List.getElem?_toArray, List.getElem?_cons_zero, List.getElem?_cons_succ] at hF
          exact ⟨by simp [Region.wanted, yielded, hF], 18, #[.agg #[.int .i64 m1, .int .i64 m2]], by go_simp, (hLm W).mono fun e w' ⟨he, hb⟩ => ⟨he, hR.trans (hb.mono hR.size), hb⟩⟩
        refine ex_pure (c := ?_) (fun W _ => Below.refl _ W) ?_ ?_
        rotate_left
        · intro a' W hR hF
          simp only [FactsOf, List.nil_append, List.cons_append, List.getD_cons_zero, List.getD_cons_succ, exists_eq_left, and_true, List.getElem?_toArray, List.getElem?_cons_zero, List.getElem?_cons_succ] at hF
          have k30 := (hR.cell (p := ⟨p3, 0, none⟩) HL.out.1).trans HC.out.1
          have k31 := (hR.cell (p := ⟨p3, 1, none⟩) HL.out.1).trans HC.out.2.1
          have k40 := (hR.cell (p := ⟨p4, 0, none⟩) HL.out.2.1).trans HC.out.2.2.1
          have k41 := (hR.cell (p := ⟨p4, 1, none⟩) HL.out.2.1).trans HC.out.2.2.2.1
          have k70 := (hR.cell (p := ⟨p7, 0, none⟩) HL.out.2.2.1).trans HC.out.2.2.2.2.1
          have k71 := (hR.cell (p := ⟨p7, 1, none⟩) HL.out.2.2.1).trans HC.out.2.2.2.2.2.1
          have kx0 := (hR.cell (p := ⟨p12, 0, none⟩) HL.out.2.2.2).trans HC.out.2.2.2.2.2.2.1
          have kx1 := (hR.cell (p := ⟨p12, 1, none⟩) HL.out.2.2.2).trans HC.out.2.2.2.2.2.2.2
          refine ⟨?_, ?_⟩
          · simp [Region.wanted, yielded, hF]
          · go_simp
            with_reducible rfl
        refine ex_callx (.int .i64 lb) (fun a' W hR hF => ?_) ?_
        · simp only [FactsOf, List.nil_append, List.cons_append, List.getD_cons_zero, List.getD_cons_succ, exists_eq_left, and_true, List.getElem?_toArray, List.getElem?_cons_zero, List.getElem?_cons_succ] at hF
          exact ⟨by simp [Region.wanted, yielded, hF], 18, #[.agg #[.int .i64 b1, .int .i64 b2]], by go_simp, (hLb W).mono fun e w' ⟨he, hb⟩ => ⟨he, hR.trans (hb.mono hR.size), hb⟩⟩
        iterate 2
          refine ex_pure (c := ?_) (fun W _ => Below.refl _ W) ?_ ?_
          rotate_left
          · intro a' W hR hF
            simp only [FactsOf, List.nil_append, List.cons_append, List.getD_cons_zero, List.getD_cons_succ, exists_eq_left, and_true, List.getElem?_toArray, List.getElem?_cons_zero, List.getElem?_cons_succ] at hF
            have k30 := (hR.cell (p := ⟨p3, 0, none⟩) HL.out.1).trans HC.out.1
            have k31 := (hR.cell (p := ⟨p3, 1, none⟩) HL.out.1).trans HC.out.2.1
            have k40 := (hR.cell (p := ⟨p4, 0, none⟩) HL.out.2.1).trans HC.out.2.2.1
            have k41 := (hR.cell (p := ⟨p4, 1, none⟩) HL.out.2.1).trans HC.out.2.2.2.1
            have k70 := (hR.cell (p := ⟨p7, 0, none⟩) HL.out.2.2.1).trans HC.out.2.2.2.2.1
            have k71 := (hR.cell (p := ⟨p7, 1, none⟩) HL.out.2.2.1).trans HC.out.2.2.2.2.2.1
            have kx0 := (hR.cell (p := ⟨p12, 0, none⟩) HL.out.2.2.2).trans HC.out.2.2.2.2.2.2.1
            have kx1 := (hR.cell (p := ⟨p12, 1, none⟩) HL.out.2.2.2).trans HC.out.2.2.2.2.2.2.2
            refine ⟨?_, ?_⟩
            · simp [Region.wanted, yielded, hF]
            · go_simp
              with_reducible rfl
        iterate 3
          refine ex_pure (c := ?_) (fun W _ => Below.refl _ W) ?_ ?_
          rotate_left
          · intro a' W hR hF
            simp only [FactsOf, List.nil_append, List.cons_append, List.getD_cons_zero, List.getD_cons_succ, exists_eq_left, and_true, List.getElem?_toArray, List.getElem?_cons_zero, List.getElem?_cons_succ] at hF
            have k30 := (hR.cell (p := ⟨p3, 0, none⟩) HL.out.1).trans HC.out.1
            have k31 := (hR.cell (p := ⟨p3, 1, none⟩) HL.out.1).trans HC.out.2.1
            have k40 := (hR.cell (p := ⟨p4, 0, none⟩) HL.out.2.1).trans HC.out.2.2.1
            have k41 := (hR.cell (p := ⟨p4, 1, none⟩) HL.out.2.1).trans HC.out.2.2.2.1
            have k70 := (hR.cell (p := ⟨p7, 0, none⟩) HL.out.2.2.1).trans HC.out.2.2.2.2.1
            have k71 := (hR.cell (p := ⟨p7, 1, none⟩) HL.out.2.2.1).trans HC.out.2.2.2.2.2.1
            have kx0 := (hR.cell (p := ⟨p12, 0, none⟩) HL.out.2.2.2).trans HC.out.2.2.2.2.2.2.1
            have kx1 := (hR.cell (p := ⟨p12, 1, none⟩) HL.out.2.2.2).trans HC.out.2.2.2.2.2.2.2
            refine ⟨?_, ?_⟩
            · simp [Region.wanted, yielded, hF]
            · go_simp
              with_reducible rfl
        show ∀ W, _ → _
        intro W hR
        simp only [FinOf, List.nil_append, List.cons_append, List.getD_cons_zero, List.getD_cons_succ, forall_eq, forall_exists_index, and_imp, Nat.reduceAdd, Array.getD_eq_getD_getElem?, List.getElem?_toArray, List.getElem?_cons_zero, List.getElem?_cons_succ, Option.getD_some]
        go_wp2
        go_ret
        exact ⟨rfl, HB.out.trans (hR.mono HB.out.size)⟩
      · have hhm : ¬ Has (m1, m2) c := fun h => hhb (hiff.1 h).2
        have hM1 : ∀ W : World, Calls Try.prog 19 #[.agg #[.int .i64 a1, .int .i64 a2], .agg #[.int .i64 b1, .int .i64 b2]] W fun e w' => e = .returned (.tuple #[.agg #[.int .i64 m1, .int .i64 m2], .bool true]) ∧ Below W.heap.size W w' := fun W => by have := gM1 W; rw [ho] at this; exact this
        have hM2 : ∀ W : World, Calls Try.prog 19 #[.agg #[.int .i64 b1, .int .i64 b2], .agg #[.int .i64 a1, .int .i64 a2]] W fun e w' => e = .returned (.tuple #[.agg #[.int .i64 m1, .int .i64 m2], .bool true]) ∧ Below W.heap.size W w' := fun W => by have := gM2 W; rw [ho] at this; exact this
        have hMs : ∀ W : World, Calls Try.prog 20 #[.agg #[.int .i64 a1, .int .i64 a2], .agg #[.int .i64 b1, .int .i64 b2]] W fun e w' => e = .returned (.bool true) ∧ Below W.heap.size W w' := fun W => by have := gMs W; rw [ho] at this; exact this
        have hHa : ∀ W : World, Calls Try.prog 16 #[.agg #[.int .i64 a1, .int .i64 a2], .int .i64 c] W fun e w' => e = .returned (.bool true) ∧ Below W.heap.size W w' := fun W => by have := gHa W; rwa [decide_eq_true hha] at this
        have hHb : ∀ W : World, Calls Try.prog 16 #[.agg #[.int .i64 b1, .int .i64 b2], .int .i64 c] W fun e w' => e = .returned (.bool false) ∧ Below W.heap.size W w' := fun W => by have := gHb W; rwa [decide_eq_false hhb] at this
        have hV : ∀ W : World, Calls Try.prog 15 #[.agg #[.int .i64 a1, .int .i64 a2]] W fun e w' => e = .returned (.bool true) ∧ Below W.heap.size W w' := fun W => by have := gV W; rwa [decide_eq_true hok] at this
        have hMa : ∀ W : World, Calls Try.prog 19 #[.agg #[.int .i64 a1, .int .i64 a2], .agg #[.int .i64 a1, .int .i64 a2]] W fun e w' => e = .returned (.tuple #[.agg #[.int .i64 a1, .int .i64 a2], .bool true]) ∧ Below W.heap.size W w' := fun W => by have := gMa W; rw [if_pos hok] at this; exact this
        have hHm : ∀ W : World, Calls Try.prog 16 #[.agg #[.int .i64 m1, .int .i64 m2], .int .i64 c] W fun e w' => e = .returned (.bool false) ∧ Below W.heap.size W w' := fun W => (has_any (m1, m2) c W).mono fun e w' ⟨h1, h2⟩ => ⟨by rw [h1, decide_eq_false hhm], grown_below h2⟩
        obtain ⟨lm, hlm⟩ : ∃ lm, lm = lenS (m1, m2) := ⟨_, rfl⟩
        obtain ⟨la, hla⟩ : ∃ la, la = lenS (a1, a2) := ⟨_, rfl⟩
        obtain ⟨lb, hlb⟩ : ∃ lb, lb = lenS (b1, b2) := ⟨_, rfl⟩
        have hLm : ∀ W : World, Calls Try.prog 18 #[.agg #[.int .i64 m1, .int .i64 m2]] W fun e w' => e = .returned (.int .i64 lm) ∧ Below W.heap.size W w' := fun W => (len_any (m1, m2) hmt W).mono fun e w' ⟨h1, h2⟩ => ⟨by rw [h1, hlm], grown_below h2⟩
        have hLa : ∀ W : World, Calls Try.prog 18 #[.agg #[.int .i64 a1, .int .i64 a2]] W fun e w' => e = .returned (.int .i64 la) ∧ Below W.heap.size W w' := by rw [hla]; exact gLa
        have hLb : ∀ W : World, Calls Try.prog 18 #[.agg #[.int .i64 b1, .int .i64 b2]] W fun e w' => e = .returned (.int .i64 lb) ∧ Below W.heap.size W w' := by rw [hlb]; exact gLb
        rw [← hlm, ← hla, ← hlb] at hle
        have d1 : decide (lm ≤ la) = true := decide_eq_true hle.1
        have d2 : decide (lm ≤ lb) = true := decide_eq_true hle.2
        clear hlm hla hlb hle hsm hiff hmt hok ho ha hb hha hhm
        clear hhb
        clear gV gHa gHb gM1 gM2 gMs gMa gLa gLb
        obtain ⟨p3, hp3⟩ : ∃ p, p = w.heap.size := ⟨_, rfl⟩
        obtain ⟨p4, hp4⟩ : ∃ p, p = w.heap.size + 1 := ⟨_, rfl⟩
        obtain ⟨w2, hw2⟩ : ∃ w', w' = (w.alloc (.cells #[.int .i64 a1, .int .i64 a2] 31)).alloc (.cells #[.int .i64 b1, .int .i64 b2] 31) := ⟨_, rfl⟩
        have H3_2 : Hid (Sits w2 p3 31 #[.int .i64 a1, .int .i64 a2]) := Lib.hid (by rw [hw2, hp3]; exact (Sits.fresh w _ _).alloc _)
        have H4_2 : Hid (Sits w2 p4 31 #[.int .i64 b1, .int .i64 b2]) := Lib.hid (by
          have := Sits.fresh (w.alloc (.cells #[.int .i64 a1, .int .i64 a2] 31)) 31 #[.int .i64 b1, .int .i64 b2]
          rw [World.size_alloc, ← hp4] at this
          rw [hw2]
          exact this)
        have HB2 : Hid (Below w.heap.size w w2) := Lib.hid (by
          rw [hw2]
          have b1 := (Below.refl w.heap.size w).alloc (Nat.le_refl _) (.cells #[.int .i64 a1, .int .i64 a2] 31)
          exact b1.alloc b1.size _)
        go_enter Try.func6, Try.ntmps6
        go_wp2_with fail
        rw [← hw2, ← hp4, ← hp3]
        clear hw2 hp3 hp4
        refine (hM1 _).mono ?_
        rintro e w3 ⟨rfl, hb⟩
        have H3_3 := Lib.hid (H3_2.out.below' hb)
        have H4_3 := Lib.hid (H4_2.out.below' hb)
        have HB3 := Lib.hid (HB2.out.trans (hb.mono HB2.out.size))
        clear hb
        obtain ⟨p7, hp7⟩ : ∃ p, p = w3.heap.size := ⟨_, rfl⟩
        obtain ⟨w4, hw4⟩ : ∃ w', w' = w3.alloc (.cells #[.int .i64 m1, .int .i64 m2] 31) := ⟨_, rfl⟩
        have hb : Below w3.heap.size w3 w4 := hw4 ▸ (Below.refl _ w3).alloc (Nat.le_refl _) _
        have H3_4 := Lib.hid (H3_3.out.below' hb)
        have H4_4 := Lib.hid (H4_3.out.below' hb)
        have H7_4 : Hid (Sits w4 p7 31 #[.int .i64 m1, .int .i64 m2]) := Lib.hid (by rw [hw4, hp7]; exact Sits.fresh w3 _ _)
        have HB4 := Lib.hid (HB3.out.trans (hb.mono HB3.out.size))
        clear hb 
        have c3_0_1 := H3_4.out.cell 0
        have c3_1_1 := H3_4.out.cell 1
        have c4_0_1 := H4_4.out.cell 0
        have c4_1_1 := H4_4.out.cell 1
        have c7_0_1 := H7_4.out.cell 0
        have c7_1_1 := H7_4.out.cell 1
        simp at c3_0_1 c3_1_1 c4_0_1 c4_1_1 c7_0_1 c7_1_1
        rw [hw4] at c3_0_1 c3_1_1 c4_0_1 c4_1_1 c7_0_1 c7_1_1
        go_wp2_with fail
        rw [← hw4, ← hp7]
        clear hw4 hp7 c3_0_1 c3_1_1 c4_0_1 c4_1_1 c7_0_1 c7_1_1
        refine (hM2 _).mono ?_
        rintro e w5 ⟨rfl, hb⟩
        have H3_5 := Lib.hid (H3_4.out.below' hb)
        have H4_5 := Lib.hid (H4_4.out.below' hb)
        have H7_5 := Lib.hid (H7_4.out.below' hb)
        have HB5 := Lib.hid (HB4.out.trans (hb.mono HB4.out.size))
        clear hb
        have c3_0_2 := H3_5.out.cell 0
        have c3_1_2 := H3_5.out.cell 1
        have c4_0_2 := H4_5.out.cell 0
        have c4_1_2 := H4_5.out.cell 1
        have c7_0_2 := H7_5.out.cell 0
        have c7_1_2 := H7_5.out.cell 1
        simp at c3_0_2 c3_1_2 c4_0_2 c4_1_2 c7_0_2 c7_1_2
        obtain ⟨p9, hp9⟩ : ∃ p, p = w5.heap.size := ⟨_, rfl⟩
        obtain ⟨w6, hw6⟩ : ∃ w', w' = w5.alloc (.cells #[.int .i64 m1, .int .i64 m2] 31) := ⟨_, rfl⟩
        have hb : Below w5.heap.size w5 w6 := hw6 ▸ (Below.refl _ w5).alloc (Nat.le_refl _) _
        have H3_6 := Lib.hid (H3_5.out.below' hb)
        have H4_6 := Lib.hid (H4_5.out.below' hb)
        have H7_6 := Lib.hid (H7_5.out.below' hb)
        have H9_6 : Hid (Sits w6 p9 31 #[.int .i64 m1, .int .i64 m2]) := Lib.hid (by rw [hw6, hp9]; exact Sits.fresh w5 _ _)
        have HB6 := Lib.hid (HB5.out.trans (hb.mono HB5.out.size))
        clear hb c3_0_2 c3_1_2 c4_0_2 c4_1_2 c7_0_2 c7_1_2
        have c3_0_3 := H3_6.out.cell 0
        have c3_1_3 := H3_6.out.cell 1
        have c4_0_3 := H4_6.out.cell 0
        have c4_1_3 := H4_6.out.cell 1
        have c7_0_3 := H7_6.out.cell 0
        have c7_1_3 := H7_6.out.cell 1
        have c9_0_3 := H9_6.out.cell 0
        have c9_1_3 := H9_6.out.cell 1
        simp at c3_0_3 c3_1_3 c4_0_3 c4_1_3 c7_0_3 c7_1_3 c9_0_3 c9_1_3
        rw [hw6] at c3_0_3 c3_1_3 c4_0_3 c4_1_3 c7_0_3 c7_1_3 c9_0_3 c9_1_3
        go_wp2_with fail
        rw [← hw6, ← hp9]
        clear hw6 hp9 c3_0_3 c3_1_3 c4_0_3 c4_1_3 c7_0_3 c7_1_3 c9_0_3 c9_1_3
        refine (hHa _).mono ?_
        rintro e w7 ⟨rfl, hb⟩
        have H3_7 := Lib.hid (H3_6.out.below' hb)
        have H4_7 := Lib.hid (H4_6.out.below' hb)
        have H7_7 := Lib.hid (H7_6.out.below' hb)
        have H9_7 := Lib.hid (H9_6.out.below' hb)
        have HB7 := Lib.hid (HB6.out.trans (hb.mono HB6.out.size))
        clear hb
        have c3_0_4 := H3_7.out.cell 0
        have c3_1_4 := H3_7.out.cell 1
        have c4_0_4 := H4_7.out.cell 0
        have c4_1_4 := H4_7.out.cell 1
        have c7_0_4 := H7_7.out.cell 0
        have c7_1_4 := H7_7.out.cell 1
        have c9_0_4 := H9_7.out.cell 0
        have c9_1_4 := H9_7.out.cell 1
        simp at c3_0_4 c3_1_4 c4_0_4 c4_1_4 c7_0_4 c7_1_4 c9_0_4 c9_1_4
        go_wp2_with fail
        clear c3_0_4 c3_1_4 c4_0_4 c4_1_4 c7_0_4 c7_1_4 c9_0_4 c9_1_4
        refine (hHb _).mono ?_
        rintro e w8 ⟨rfl, hb⟩
        have H3_8 := Lib.hid (H3_7.out.below' hb)
        have H4_8 := Lib.hid (H4_7.out.below' hb)
        have H7_8 := Lib.hid (H7_7.out.below' hb)
        have H9_8 := Lib.hid (H9_7.out.below' hb)
        have HB8 := Lib.hid (HB7.out.trans (hb.mono HB7.out.size))
        clear hb
        have c3_0_5 := H3_8.out.cell 0
        have c3_1_5 := H3_8.out.cell 1
        have c4_0_5 := H4_8.out.cell 0
        have c4_1_5 := H4_8.out.cell 1
        have c7_0_5 := H7_8.out.cell 0
        have c7_1_5 := H7_8.out.cell 1
        have c9_0_5 := H9_8.out.cell 0
        have c9_1_5 := H9_8.out.cell 1
        simp at c3_0_5 c3_1_5 c4_0_5 c4_1_5 c7_0_5 c7_1_5 c9_0_5 c9_1_5
        go_wp2_with fail
        clear c3_0_5 c3_1_5 c4_0_5 c4_1_5 c7_0_5 c7_1_5 c9_0_5 c9_1_5
        refine (hMs _).mono ?_
        rintro e w9 ⟨rfl, hb⟩
        have H3_9 := Lib.hid (H3_8.out.below' hb)
        have H4_9 := Lib.hid (H4_8.out.below' hb)
        have H7_9 := Lib.hid (H7_8.out.below' hb)
        have H9_9 := Lib.hid (H9_8.out.below' hb)
        have HB9 := Lib.hid (HB8.out.trans (hb.mono HB8.out.size))
        clear hb
        have c3_0_6 := H3_9.out.cell 0
        have c3_1_6 := H3_9.out.cell 1
        have c4_0_6 := H4_9.out.cell 0
        have c4_1_6 := H4_9.out.cell 1
        have c7_0_6 := H7_9.out.cell 0
        have c7_1_6 := H7_9.out.cell 1
        have c9_0_6 := H9_9.out.cell 0
        have c9_1_6 := H9_9.out.cell 1
        simp at c3_0_6 c3_1_6 c4_0_6 c4_1_6 c7_0_6 c7_1_6 c9_0_6 c9_1_6
        go_wp2_with fail
        clear c3_0_6 c3_1_6 c4_0_6 c4_1_6 c7_0_6 c7_1_6 c9_0_6 c9_1_6
        refine (hHm _).mono ?_
        rintro e w10 ⟨rfl, hb⟩
        have H3_10 := Lib.hid (H3_9.out.below' hb)
        have H4_10 := Lib.hid (H4_9.out.below' hb)
        have H7_10 := Lib.hid (H7_9.out.below' hb)
        have H9_10 := Lib.hid (H9_9.out.below' hb)
        have HB10 := Lib.hid (HB9.out.trans (hb.mono HB9.out.size))
        clear hb
        have c3_0_7 := H3_10.out.cell 0
        have c3_1_7 := H3_10.out.cell 1
        have c4_0_7 := H4_10.out.cell 0
        have c4_1_7 := H4_10.out.cell 1
        have c7_0_7 := H7_10.out.cell 0
        have c7_1_7 := H7_10.out.cell 1
        have c9_0_7 := H9_10.out.cell 0
        have c9_1_7 := H9_10.out.cell 1
        simp at c3_0_7 c3_1_7 c4_0_7 c4_1_7 c7_0_7 c7_1_7 c9_0_7 c9_1_7
        go_wp2_with fail
        clear c3_0_7 c3_1_7 c4_0_7 c4_1_7 c7_0_7 c7_1_7 c9_0_7 c9_1_7
        refine (hMa _).mono ?_
        rintro e w11 ⟨rfl, hb⟩
        have H3_11 := Lib.hid (H3_10.out.below' hb)
        have H4_11 := Lib.hid (H4_10.out.below' hb)
        have H7_11 := Lib.hid (H7_10.out.below' hb)
        have H9_11 := Lib.hid (H9_10.out.below' hb)
        have HB11 := Lib.hid (HB10.out.trans (hb.mono HB10.out.size))
        clear hb
        have c3_0_8 := H3_11.out.cell 0
        have c3_1_8 := H3_11.out.cell 1
        have c4_0_8 := H4_11.out.cell 0
        have c4_1_8 := H4_11.out.cell 1
        have c7_0_8 := H7_11.out.cell 0
        have c7_1_8 := H7_11.out.cell 1
        have c9_0_8 := H9_11.out.cell 0
        have c9_1_8 := H9_11.out.cell 1
        simp at c3_0_8 c3_1_8 c4_0_8 c4_1_8 c7_0_8 c7_1_8 c9_0_8 c9_1_8
        obtain ⟨p12, hp12⟩ : ∃ p, p = w11.heap.size := ⟨_, rfl⟩
        obtain ⟨w12, hw12⟩ : ∃ w', w' = w11.alloc (.cells #[.int .i64 a1, .int .i64 a2] 31) := ⟨_, rfl⟩
        have hb : Below w11.heap.size w11 w12 := hw12 ▸ (Below.refl _ w11).alloc (Nat.le_refl _) _
        have H3_12 := Lib.hid (H3_11.out.below' hb)
        have H4_12 := Lib.hid (H4_11.out.below' hb)
        have H7_12 := Lib.hid (H7_11.out.below' hb)
        have H9_12 := Lib.hid (H9_11.out.below' hb)
        have H12_12 : Hid (Sits w12 p12 31 #[.int .i64 a1, .int .i64 a2]) := Lib.hid (by rw [hw12, hp12]; exact Sits.fresh w11 _ _)
        have HB12 := Lib.hid (HB11.out.trans (hb.mono HB11.out.size))
        clear hb c3_0_8 c3_1_8 c4_0_8 c4_1_8 c7_0_8 c7_1_8 c9_0_8 c9_1_8
        have c3_0_9 := H3_12.out.cell 0
        have c3_1_9 := H3_12.out.cell 1
        have c4_0_9 := H4_12.out.cell 0
        have c4_1_9 := H4_12.out.cell 1
        have c7_0_9 := H7_12.out.cell 0
        have c7_1_9 := H7_12.out.cell 1
        have c9_0_9 := H9_12.out.cell 0
        have c9_1_9 := H9_12.out.cell 1
        have c12_0_9 := H12_12.out.cell 0
        have c12_1_9 := H12_12.out.cell 1
        simp at c3_0_9 c3_1_9 c4_0_9 c4_1_9 c7_0_9 c7_1_9 c9_0_9 c9_1_9 c12_0_9 c12_1_9
        rw [hw12] at c3_0_9 c3_1_9 c4_0_9 c4_1_9 c7_0_9 c7_1_9 c9_0_9 c9_1_9 c12_0_9 c12_1_9
        go_wp2_with fail
        rw [← hw12, ← hp12]
        clear hw12 hp12 c3_0_9 c3_1_9 c4_0_9 c4_1_9 c7_0_9 c7_1_9 c9_0_9 c9_1_9 c12_0_9 c12_1_9
        have HC := Lib.hid (And.intro (H3_12.out.cell 0) (And.intro (H3_12.out.cell 1) (And.intro (H4_12.out.cell 0) (And.intro (H4_12.out.cell 1) (And.intro (H7_12.out.cell 0) (And.intro (H7_12.out.cell 1) (And.intro (H12_12.out.cell 0) (H12_12.out.cell 1))))))))
        simp at HC
        have HL := Lib.hid (And.intro H3_12.out.lt (And.intro H4_12.out.lt (And.intro H7_12.out.lt H12_12.out.lt)))
        have HB := HB12
        refine wp_region_ex (by kernel_rfl) (fun W => Below w12.heap.size w12 W) (fun W W' => Below W.heap.size W W')
          [[], [(65, some 0)], [(13, none), (66, some 1)], [(3, none), (66, some 1)], [(66, some 1), (68, some 3)], [(66, some 1), (67, some 2), (69, some 4)], [(66, some 1), (70, some 5)], [(71, some 6)], [(13, none), (72, some 7)], [(72, some 7), (73, some 8)], [(72, some 7), (74, some 9)], [(12, none), (75, some 10)], [(3, none), (75, some 10)], [(75, some 10), (76, some 11), (77, some 12)], [(72, some 7), (75, some 10), (78, some 13)], [(72, some 7), (79, some 14)], [(80, some 15)], [(8, none), (81, some 16)], [(81, some 16), (82, some 17)], [(81, some 16), (83, some 18)], [(7, none), (84, some 19)], [(84, some 19), (85, some 20)], [(3, none), (84, some 19)], [(84, some 19), (87, some 22)], [(84, some 19), (86, some 21), (88, some 23)], [(84, some 19), (89, some 24)], [(7, none), (90, some 25)], [(90, some 25), (91, some 26)], [(4, none), (90, some 25)], [(90, some 25), (93, some 28)], [(90, some 25), (92, some 27), (94, some 29)], [(84, some 19), (90, some 25), (95, some 30)], [(81, some 16), (84, some 19), (96, some 31)], [(81, some 16), (97, some 32)], [(98, some 33)]]
          [none, none, none, none, none, none, some 34, none, none, none, none, none, none, none, none, none, none, none, none, none, none, none, none, none, none, none, none, none, none, none, none, none, none, none, none, none, none, none, none, none, none, none, none, none, none, none, none, none, none, none, none, none, none, none, none, none, none, none, none, none, none, none, none, none, none, some 0, some 1, some 2, some 3, some 4, some 5, some 6, some 7, some 8, some 9, some 10, some 11, some 12, some 13, some 14, some 15, some 16, some 17, some 18, some 19, some 20, some 21, some 22, some 23, some 24, some 25, some 26, some 27, some 28, some 29, some 30, some 31, some 32, some 33] (by kernel_rfl) (by kernel_rfl) ((Below.refl _ w12).drew) ?_
        refine ex_callx (.bool true) (fun a' W hR hF => ?_) ?_
        · simp only [FactsOf, List.nil_append, List.cons_append, List.getD_cons_zero, List.getD_cons_succ, exists_eq_left, and_true, List.getElem?_toArray, List.getElem?_cons_zero, List.getElem?_cons_succ] at hF
          exact ⟨by simp [Region.wanted, yielded, hF], 7, #[], by go_simp, (hAl W).mono fun e w' ⟨he, hb⟩ => ⟨he, hR.trans (hb.mono hR.size), hb⟩⟩
        iterate 3
          refine ex_pure (c := ?_) (fun W _ => Below.refl _ W) ?_ ?_
          rotate_left
          · intro a' W hR hF
            simp only [FactsOf, List.nil_append, List.cons_append, List.getD_cons_zero, List.getD_cons_succ, exists_eq_left, and_true, List.getElem?_toArray, List.getElem?_cons_zero, List.getElem?_cons_succ] at hF
            have k30 := (hR.cell (p := ⟨p3, 0, none⟩) HL.out.1).trans HC.out.1
            have k31 := (hR.cell (p := ⟨p3, 1, none⟩) HL.out.1).trans HC.out.2.1
            have k40 := (hR.cell (p := ⟨p4, 0, none⟩) HL.out.2.1).trans HC.out.2.2.1
            have k41 := (hR.cell (p := ⟨p4, 1, none⟩) HL.out.2.1).trans HC.out.2.2.2.1
            have k70 := (hR.cell (p := ⟨p7, 0, none⟩) HL.out.2.2.1).trans HC.out.2.2.2.2.1
            have k71 := (hR.cell (p := ⟨p7, 1, none⟩) HL.out.2.2.1).trans HC.out.2.2.2.2.2.1
            have kx0 := (hR.cell (p := ⟨p12, 0, none⟩) HL.out.2.2.2).trans HC.out.2.2.2.2.2.2.1
            have kx1 := (hR.cell (p := ⟨p12, 1, none⟩) HL.out.2.2.2).trans HC.out.2.2.2.2.2.2.2
            refine ⟨?_, ?_⟩
            · simp [Region.wanted, yielded, hF]
            · go_simp
              with_reducible rfl
        refine ex_callx (.bool true) (fun a' W hR hF => ?_) ?_
        · simp only [FactsOf, List.nil_append, List.cons_append, List.getD_cons_zero, List.getD_cons_succ, exists_eq_left, and_true, List.getElem?_toArray, List.getElem?_cons_zero, List.getElem?_cons_succ] at hF
          exact ⟨by simp [Region.wanted, yielded, hF], 15, #[.agg #[.int .i64 a1, .int .i64 a2]], by go_simp, (hV W).mono fun e w' ⟨he, hb⟩ => ⟨he, hR.trans (hb.mono hR.size), hb⟩⟩
        iterate 6
          refine ex_pure (c := ?_) (fun W _ => Below.refl _ W) ?_ ?_
          rotate_left
          · intro a' W hR hF
            simp only [FactsOf, List.nil_append, List.cons_append, List.getD_cons_zero, List.getD_cons_succ, exists_eq_left, and_true, List.getElem?_toArray, List.getElem?_cons_zero, List.getElem?_cons_succ] at hF
            have k30 := (hR.cell (p := ⟨p3, 0, none⟩) HL.out.1).trans HC.out.1
            have k31 := (hR.cell (p := ⟨p3, 1, none⟩) HL.out.1).trans HC.out.2.1
            have k40 := (hR.cell (p := ⟨p4, 0, none⟩) HL.out.2.1).trans HC.out.2.2.1
            have k41 := (hR.cell (p := ⟨p4, 1, none⟩) HL.out.2.1).trans HC.out.2.2.2.1
            have k70 := (hR.cell (p := ⟨p7, 0, none⟩) HL.out.2.2.1).trans HC.out.2.2.2.2.1
            have k71 := (hR.cell (p := ⟨p7, 1, none⟩) HL.out.2.2.1).trans HC.out.2.2.2.2.2.1
            have kx0 := (hR.cell (p := ⟨p12, 0, none⟩) HL.out.2.2.2).trans HC.out.2.2.2.2.2.2.1
            have kx1 := (hR.cell (p := ⟨p12, 1, none⟩) HL.out.2.2.2).trans HC.out.2.2.2.2.2.2.2
            refine ⟨?_, ?_⟩
            · simp [Region.wanted, yielded, hF]
            · go_simp
              with_reducible rfl
        iterate 3
          refine ex_pure (c := ?_) (fun W _ => Below.refl _ W) ?_ ?_
          rotate_left
          · intro a' W hR hF
            simp only [FactsOf, List.nil_append, List.cons_append, List.getD_cons_zero, List.getD_cons_succ, exists_eq_left, and_true, List.getElem?_toArray, List.getElem?_cons_zero, List.getElem?_cons_succ] at hF
            have k30 := (hR.cell (p := ⟨p3, 0, none⟩) HL.out.1).trans HC.out.1
            have k31 := (hR.cell (p := ⟨p3, 1, none⟩) HL.out.1).trans HC.out.2.1
            have k40 := (hR.cell (p := ⟨p4, 0, none⟩) HL.out.2.1).trans HC.out.2.2.1
            have k41 := (hR.cell (p := ⟨p4, 1, none⟩) HL.out.2.1).trans HC.out.2.2.2.1
            have k70 := (hR.cell (p := ⟨p7, 0, none⟩) HL.out.2.2.1).trans HC.out.2.2.2.2.1
            have k71 := (hR.cell (p := ⟨p7, 1, none⟩) HL.out.2.2.1).trans HC.out.2.2.2.2.2.1
            have kx0 := (hR.cell (p := ⟨p12, 0, none⟩) HL.out.2.2.2).trans HC.out.2.2.2.2.2.2.1
            have kx1 := (hR.cell (p := ⟨p12, 1, none⟩) HL.out.2.2.2).trans HC.out.2.2.2.2.2.2.2
            refine ⟨?_, ?_⟩
            · simp [Region.wanted, yielded, hF]
            · go_simp
              with_reducible rfl
        iterate 6
          refine ex_pure (c := ?_) (fun W _ => Below.refl _ W) ?_ ?_
          rotate_left
          · intro a' W hR hF
            simp only [FactsOf, List.nil_append, List.cons_append, List.getD_cons_zero, List.getD_cons_succ, exists_eq_left, and_true, List.getElem?_toArray, List.getElem?_cons_zero, List.getElem?_cons_succ] at hF
            have k30 := (hR.cell (p := ⟨p3, 0, none⟩) HL.out.1).trans HC.out.1
            have k31 := (hR.cell (p := ⟨p3, 1, none⟩) HL.out.1).trans HC.out.2.1
            have k40 := (hR.cell (p := ⟨p4, 0, none⟩) HL.out.2.1).trans HC.out.2.2.1
            have k41 := (hR.cell (p := ⟨p4, 1, none⟩) HL.out.2.1).trans HC.out.2.2.2.1
            have k70 := (hR.cell (p := ⟨p7, 0, none⟩) HL.out.2.2.1).trans HC.out.2.2.2.2.1
            have k71 := (hR.cell (p := ⟨p7, 1, none⟩) HL.out.2.2.1).trans HC.out.2.2.2.2.2.1
            have kx0 := (hR.cell (p := ⟨p12, 0, none⟩) HL.out.2.2.2).trans HC.out.2.2.2.2.2.2.1
            have kx1 := (hR.cell (p := ⟨p12, 1, none⟩) HL.out.2.2.2).trans HC.out.2.2.2.2.2.2.2
            refine ⟨?_, ?_⟩
            · simp [Region.wanted, yielded, hF]
            · go_simp
              with_reducible rfl
        refine ex_pure (c := ?_) (fun W _ => Below.refl _ W) ?_ ?_
        rotate_left
        · intro a' W hR hF
          simp only [FactsOf, List.nil_append, List.cons_append, List.getD_cons_zero, List.getD_cons_succ, exists_eq_left, and_true, List.getElem?_toArray, List.getElem?_cons_zero, List.getElem?_cons_succ] at hF
          have k30 := (hR.cell (p := ⟨p3, 0, none⟩) HL.out.1).trans HC.out.1
          have k31 := (hR.cell (p := ⟨p3, 1, none⟩) HL.out.1).trans HC.out.2.1
          have k40 := (hR.cell (p := ⟨p4, 0, none⟩) HL.out.2.1).trans HC.out.2.2.1
          have k41 := (hR.cell (p := ⟨p4, 1, none⟩) HL.out.2.1).trans HC.out.2.2.2.1
          have k70 := (hR.cell (p := ⟨p7, 0, none⟩) HL.out.2.2.1).trans HC.out.2.2.2.2.1
          have k71 := (hR.cell (p := ⟨p7, 1, none⟩) HL.out.2.2.1).trans HC.out.2.2.2.2.2.1
          have kx0 := (hR.cell (p := ⟨p12, 0, none⟩) HL.out.2.2.2).trans HC.out.2.2.2.2.2.2.1
          have kx1 := (hR.cell (p := ⟨p12, 1, none⟩) HL.out.2.2.2).trans HC.out.2.2.2.2.2.2.2
          refine ⟨?_, ?_⟩
          · simp [Region.wanted, yielded, hF]
          · go_simp
            with_reducible rfl
        refine ex_callx (.int .i64 lm) (fun a' W hR hF => ?_) ?_
        · simp only [FactsOf, List.nil_append, List.cons_append, List.getD_cons_zero, List.getD_cons_succ, exists_eq_left, and_true, List.getElem?_toArray, List.getElem?_cons_zero, List.getElem?_cons_succ] at hF
          exact ⟨by simp [Region.wanted, yielded, hF], 18, #[.agg #[.int .i64 m1, .int .i64 m2]], by go_simp, (hLm W).mono fun e w' ⟨he, hb⟩ => ⟨he, hR.trans (hb.mono hR.size), hb⟩⟩
        refine ex_pure (c := ?_) (fun W _ => Below.refl _ W) ?_ ?_
        rotate_left
        · intro a' W hR hF
          simp only [FactsOf, List.nil_append, List.cons_append, List.getD_cons_zero, List.getD_cons_succ, exists_eq_left, and_true, List.getElem?_toArray, List.getElem?_cons_zero, List.getElem?_cons_succ] at hF
          have k30 := (hR.cell (p := ⟨p3, 0, none⟩) HL.out.1).trans HC.out.1
          have k31 := (hR.cell (p := ⟨p3, 1, none⟩) HL.out.1).trans HC.out.2.1
          have k40 := (hR.cell (p := ⟨p4, 0, none⟩) HL.out.2.1).trans HC.out.2.2.1
          have k41 := (hR.cell (p := ⟨p4, 1, none⟩) HL.out.2.1).trans HC.out.2.2.2.1
          have k70 := (hR.cell (p := ⟨p7, 0, none⟩) HL.out.2.2.1).trans HC.out.2.2.2.2.1
          have k71 := (hR.cell (p := ⟨p7, 1, none⟩) HL.out.2.2.1).trans HC.out.2.2.2.2.2.1
          have kx0 := (hR.cell (p := ⟨p12, 0, none⟩) HL.out.2.2.2).trans HC.out.2.2.2.2.2.2.1
          have kx1 := (hR.cell (p := ⟨p12, 1, none⟩) HL.out.2.2.2).trans HC.out.2.2.2.2.2.2.2
          refine ⟨?_, ?_⟩
          · simp [Region.wanted, yielded, hF]
          · go_simp
            with_reducible rfl
        refine ex_callx (.int .i64 la) (fun a' W hR hF => ?_) ?_
        · simp only [FactsOf, List.nil_append, List.cons_append, List.getD_cons_zero, List.getD_cons_succ, exists_eq_left, and_true, List.getElem?_toArray, List.getElem?_cons_zero, List.getElem?_cons_succ] at hF
          exact ⟨by simp [Region.wanted, yielded, hF], 18, #[.agg #[.int .i64 a1, .int .i64 a2]], by go_simp, (hLa W).mono fun e w' ⟨he, hb⟩ => ⟨he, hR.trans (hb.mono hR.size), hb⟩⟩
        iterate 3
          refine ex_pure (c := ?_) (fun W _ => Below.refl _ W) ?_ ?_
          rotate_left
          · intro a' W hR hF
            simp only [FactsOf, List.nil_append, List.cons_append, List.getD_cons_zero, List.getD_cons_succ, exists_eq_left, and_true, List.getElem?_toArray, List.getElem?_cons_zero, List.getElem?_cons_succ] at hF
            have k30 := (hR.cell (p := ⟨p3, 0, none⟩) HL.out.1).trans HC.out.1
            have k31 := (hR.cell (p := ⟨p3, 1, none⟩) HL.out.1).trans HC.out.2.1
            have k40 := (hR.cell (p := ⟨p4, 0, none⟩) HL.out.2.1).trans HC.out.2.2.1
            have k41 := (hR.cell (p := ⟨p4, 1, none⟩) HL.out.2.1).trans HC.out.2.2.2.1
            have k70 := (hR.cell (p := ⟨p7, 0, none⟩) HL.out.2.2.1).trans HC.out.2.2.2.2.1
            have k71 := (hR.cell (p := ⟨p7, 1, none⟩) HL.out.2.2.1).trans HC.out.2.2.2.2.2.1
            have kx0 := (hR.cell (p := ⟨p12, 0, none⟩) HL.out.2.2.2).trans HC.out.2.2.2.2.2.2.1
            have kx1 := (hR.cell (p := ⟨p12, 1, none⟩) HL.out.2.2.2).trans HC.out.2.2.2.2.2.2.2
            refine ⟨?_, ?_⟩
            · simp [Region.wanted, yielded, hF]
            · go_simp
              with_reducible rfl
        refine ex_callx (.int .i64 lm) (fun a' W hR hF => ?_) ?_
        · simp only [FactsOf, List.nil_append, List.cons_append, List.getD_cons_zero, List.getD_cons_succ, exists_eq_left, and_true, List.getElem?_toArray, List.getElem?_cons_zero, List.getElem?_cons_succ] at hF
          exact ⟨by simp [Region.wanted, yielded, hF], 18, #[.agg #[.int .i64 m1, .int .i64 m2]], by go_simp, (hLm W).mono fun e w' ⟨he, hb⟩ => ⟨he, hR.trans (hb.mono hR.size), hb⟩⟩
        refine ex_pure (c := ?_) (fun W _ => Below.refl _ W) ?_ ?_
        rotate_left
        · intro a' W hR hF
          simp only [FactsOf, List.nil_append, List.cons_append, List.getD_cons_zero, List.getD_cons_succ, exists_eq_left, and_true, List.getElem?_toArray, List.getElem?_cons_zero, List.getElem?_cons_succ] at hF
          have k30 := (hR.cell (p := ⟨p3, 0, none⟩) HL.out.1).trans HC.out.1
          have k31 := (hR.cell (p := ⟨p3, 1, none⟩) HL.out.1).trans HC.out.2.1
          have k40 := (hR.cell (p := ⟨p4, 0, none⟩) HL.out.2.1).trans HC.out.2.2.1
          have k41 := (hR.cell (p := ⟨p4, 1, none⟩) HL.out.2.1).trans HC.out.2.2.2.1
          have k70 := (hR.cell (p := ⟨p7, 0, none⟩) HL.out.2.2.1).trans HC.out.2.2.2.2.1
          have k71 := (hR.cell (p := ⟨p7, 1, none⟩) HL.out.2.2.1).trans HC.out.2.2.2.2.2.1
          have kx0 := (hR.cell (p := ⟨p12, 0, none⟩) HL.out.2.2.2).trans HC.out.2.2.2.2.2.2.1
          have kx1 := (hR.cell (p := ⟨p12, 1, none⟩) HL.out.2.2.2).trans HC.out.2.2.2.2.2.2.2
          refine ⟨?_, ?_⟩
          · simp [Region.wanted, yielded, hF]
          · go_simp
            with_reducible rfl
        refine ex_callx (.int .i64 lb) (fun a' W hR hF => ?_) ?_
        · simp only [FactsOf, List.nil_append, List.cons_append, List.getD_cons_zero, List.getD_cons_succ, exists_eq_left, and_true, List.getElem?_toArray, List.getElem?_cons_zero, List.getElem?_cons_succ] at hF
          exact ⟨by simp [Region.wanted, yielded, hF], 18, #[.agg #[.int .i64 b1, .int .i64 b2]], by go_simp, (hLb W).mono fun e w' ⟨he, hb⟩ => ⟨he, hR.trans (hb.mono hR.size), hb⟩⟩
        iterate 2
          refine ex_pure (c := ?_) (fun W _ => Below.refl _ W) ?_ ?_
          rotate_left
          · intro a' W hR hF
            simp only [FactsOf, List.nil_append, List.cons_append, List.getD_cons_zero, List.getD_cons_succ, exists_eq_left, and_true, List.getElem?_toArray, List.getElem?_cons_zero, List.getElem?_cons_succ] at hF
            have k30 := (hR.cell (p := ⟨p3, 0, none⟩) HL.out.1).trans HC.out.1
            have k31 := (hR.cell (p := ⟨p3, 1, none⟩) HL.out.1).trans HC.out.2.1
            have k40 := (hR.cell (p := ⟨p4, 0, none⟩) HL.out.2.1).trans HC.out.2.2.1
            have k41 := (hR.cell (p := ⟨p4, 1, none⟩) HL.out.2.1).trans HC.out.2.2.2.1
            have k70 := (hR.cell (p := ⟨p7, 0, none⟩) HL.out.2.2.1).trans HC.out.2.2.2.2.1
            have k71 := (hR.cell (p := ⟨p7, 1, none⟩) HL.out.2.2.1).trans HC.out.2.2.2.2.2.1
            have kx0 := (hR.cell (p := ⟨p12, 0, none⟩) HL.out.2.2.2).trans HC.out.2.2.2.2.2.2.1
            have kx1 := (hR.cell (p := ⟨p12, 1, none⟩) HL.out.2.2.2).trans HC.out.2.2.2.2.2.2.2
            refine ⟨?_, ?_⟩
            · simp [Region.wanted, yielded, hF]
            · go_simp
              with_reducible rfl
        iterate 3
          refine ex_pure (c := ?_) (fun W _ => Below.refl _ W) ?_ ?_
          rotate_left
          · intro a' W hR hF
            simp only [FactsOf, List.nil_append, List.cons_append, List.getD_cons_zero, List.getD_cons_succ, exists_eq_left, and_true, List.getElem?_toArray, List.getElem?_cons_zero, List.getElem?_cons_succ] at hF
            have k30 := (hR.cell (p := ⟨p3, 0, none⟩) HL.out.1).trans HC.out.1
            have k31 := (hR.cell (p := ⟨p3, 1, none⟩) HL.out.1).trans HC.out.2.1
            have k40 := (hR.cell (p := ⟨p4, 0, none⟩) HL.out.2.1).trans HC.out.2.2.1
            have k41 := (hR.cell (p := ⟨p4, 1, none⟩) HL.out.2.1).trans HC.out.2.2.2.1
            have k70 := (hR.cell (p := ⟨p7, 0, none⟩) HL.out.2.2.1).trans HC.out.2.2.2.2.1
            have k71 := (hR.cell (p := ⟨p7, 1, none⟩) HL.out.2.2.1).trans HC.out.2.2.2.2.2.1
            have kx0 := (hR.cell (p := ⟨p12, 0, none⟩) HL.out.2.2.2).trans HC.out.2.2.2.2.2.2.1
            have kx1 := (hR.cell (p := ⟨p12, 1, none⟩) HL.out.2.2.2).trans HC.out.2.2.2.2.2.2.2
            refine ⟨?_, ?_⟩
            · simp [Region.wanted, yielded, hF]
            · go_simp
              with_reducible rfl
        show ∀ W, _ → _
        intro W hR
        simp only [FinOf, List.nil_append, List.cons_append, List.getD_cons_zero, List.getD_cons_succ, forall_eq, forall_exists_index, and_imp, Nat.reduceAdd, Array.getD_eq_getD_getElem?, List.getElem?_toArray, List.getElem?_cons_zero, List.getElem?_cons_succ, Option.getD_some]
        go_wp2
        go_ret
        exact ⟨rfl, HB.out.trans (hR.mono HB.out.size)⟩
    · have hhm : ¬ Has (m1, m2) c := fun h => hha (hiff.1 h).1
      have hM1 : ∀ W : World, Calls Try.prog 19 #[.agg #[.int .i64 a1, .int .i64 a2], .agg #[.int .i64 b1, .int .i64 b2]] W fun e w' => e = .returned (.tuple #[.agg #[.int .i64 m1, .int .i64 m2], .bool true]) ∧ Below W.heap.size W w' := fun W => by have := gM1 W; rw [ho] at this; exact this
      have hM2 : ∀ W : World, Calls Try.prog 19 #[.agg #[.int .i64 b1, .int .i64 b2], .agg #[.int .i64 a1, .int .i64 a2]] W fun e w' => e = .returned (.tuple #[.agg #[.int .i64 m1, .int .i64 m2], .bool true]) ∧ Below W.heap.size W w' := fun W => by have := gM2 W; rw [ho] at this; exact this
      have hMs : ∀ W : World, Calls Try.prog 20 #[.agg #[.int .i64 a1, .int .i64 a2], .agg #[.int .i64 b1, .int .i64 b2]] W fun e w' => e = .returned (.bool true) ∧ Below W.heap.size W w' := fun W => by have := gMs W; rw [ho] at this; exact this
      have hHa : ∀ W : World, Calls Try.prog 16 #[.agg #[.int .i64 a1, .int .i64 a2], .int .i64 c] W fun e w' => e = .returned (.bool false) ∧ Below W.heap.size W w' := fun W => by have := gHa W; rwa [decide_eq_false hha] at this
      have hV : ∀ W : World, Calls Try.prog 15 #[.agg #[.int .i64 a1, .int .i64 a2]] W fun e w' => e = .returned (.bool true) ∧ Below W.heap.size W w' := fun W => by have := gV W; rwa [decide_eq_true hok] at this
      have hMa : ∀ W : World, Calls Try.prog 19 #[.agg #[.int .i64 a1, .int .i64 a2], .agg #[.int .i64 a1, .int .i64 a2]] W fun e w' => e = .returned (.tuple #[.agg #[.int .i64 a1, .int .i64 a2], .bool true]) ∧ Below W.heap.size W w' := fun W => by have := gMa W; rw [if_pos hok] at this; exact this
      have hHm : ∀ W : World, Calls Try.prog 16 #[.agg #[.int .i64 m1, .int .i64 m2], .int .i64 c] W fun e w' => e = .returned (.bool false) ∧ Below W.heap.size W w' := fun W => (has_any (m1, m2) c W).mono fun e w' ⟨h1, h2⟩ => ⟨by rw [h1, decide_eq_false hhm], grown_below h2⟩
      obtain ⟨lm, hlm⟩ : ∃ lm, lm = lenS (m1, m2) := ⟨_, rfl⟩
      obtain ⟨la, hla⟩ : ∃ la, la = lenS (a1, a2) := ⟨_, rfl⟩
      obtain ⟨lb, hlb⟩ : ∃ lb, lb = lenS (b1, b2) := ⟨_, rfl⟩
      have hLm : ∀ W : World, Calls Try.prog 18 #[.agg #[.int .i64 m1, .int .i64 m2]] W fun e w' => e = .returned (.int .i64 lm) ∧ Below W.heap.size W w' := fun W => (len_any (m1, m2) hmt W).mono fun e w' ⟨h1, h2⟩ => ⟨by rw [h1, hlm], grown_below h2⟩
      have hLa : ∀ W : World, Calls Try.prog 18 #[.agg #[.int .i64 a1, .int .i64 a2]] W fun e w' => e = .returned (.int .i64 la) ∧ Below W.heap.size W w' := by rw [hla]; exact gLa
      have hLb : ∀ W : World, Calls Try.prog 18 #[.agg #[.int .i64 b1, .int .i64 b2]] W fun e w' => e = .returned (.int .i64 lb) ∧ Below W.heap.size W w' := by rw [hlb]; exact gLb
      rw [← hlm, ← hla, ← hlb] at hle
      have d1 : decide (lm ≤ la) = true := decide_eq_true hle.1
      have d2 : decide (lm ≤ lb) = true := decide_eq_true hle.2
      clear hlm hla hlb hle hsm hiff hmt hok ho ha hb hha hhm
      clear gV gHa gHb gM1 gM2 gMs gMa gLa gLb
      obtain ⟨p3, hp3⟩ : ∃ p, p = w.heap.size := ⟨_, rfl⟩
      obtain ⟨p4, hp4⟩ : ∃ p, p = w.heap.size + 1 := ⟨_, rfl⟩
      obtain ⟨w2, hw2⟩ : ∃ w', w' = (w.alloc (.cells #[.int .i64 a1, .int .i64 a2] 31)).alloc (.cells #[.int .i64 b1, .int .i64 b2] 31) := ⟨_, rfl⟩
      have H3_2 : Hid (Sits w2 p3 31 #[.int .i64 a1, .int .i64 a2]) := Lib.hid (by rw [hw2, hp3]; exact (Sits.fresh w _ _).alloc _)
      have H4_2 : Hid (Sits w2 p4 31 #[.int .i64 b1, .int .i64 b2]) := Lib.hid (by
        have := Sits.fresh (w.alloc (.cells #[.int .i64 a1, .int .i64 a2] 31)) 31 #[.int .i64 b1, .int .i64 b2]
        rw [World.size_alloc, ← hp4] at this
        rw [hw2]
        exact this)
      have HB2 : Hid (Below w.heap.size w w2) := Lib.hid (by
        rw [hw2]
        have b1 := (Below.refl w.heap.size w).alloc (Nat.le_refl _) (.cells #[.int .i64 a1, .int .i64 a2] 31)
        exact b1.alloc b1.size _)
      go_enter Try.func6, Try.ntmps6
      go_wp2_with fail
      rw [← hw2, ← hp4, ← hp3]
      clear hw2 hp3 hp4
      refine (hM1 _).mono ?_
      rintro e w3 ⟨rfl, hb⟩
      have H3_3 := Lib.hid (H3_2.out.below' hb)
      have H4_3 := Lib.hid (H4_2.out.below' hb)
      have HB3 := Lib.hid (HB2.out.trans (hb.mono HB2.out.size))
      clear hb
      obtain ⟨p7, hp7⟩ : ∃ p, p = w3.heap.size := ⟨_, rfl⟩
      obtain ⟨w4, hw4⟩ : ∃ w', w' = w3.alloc (.cells #[.int .i64 m1, .int .i64 m2] 31) := ⟨_, rfl⟩
      have hb : Below w3.heap.size w3 w4 := hw4 ▸ (Below.refl _ w3).alloc (Nat.le_refl _) _
      have H3_4 := Lib.hid (H3_3.out.below' hb)
      have H4_4 := Lib.hid (H4_3.out.below' hb)
      have H7_4 : Hid (Sits w4 p7 31 #[.int .i64 m1, .int .i64 m2]) := Lib.hid (by rw [hw4, hp7]; exact Sits.fresh w3 _ _)
      have HB4 := Lib.hid (HB3.out.trans (hb.mono HB3.out.size))
      clear hb 
      have c3_0_1 := H3_4.out.cell 0
      have c3_1_1 := H3_4.out.cell 1
      have c4_0_1 := H4_4.out.cell 0
      have c4_1_1 := H4_4.out.cell 1
      have c7_0_1 := H7_4.out.cell 0
      have c7_1_1 := H7_4.out.cell 1
      simp at c3_0_1 c3_1_1 c4_0_1 c4_1_1 c7_0_1 c7_1_1
      rw [hw4] at c3_0_1 c3_1_1 c4_0_1 c4_1_1 c7_0_1 c7_1_1
      go_wp2_with fail
      rw [← hw4, ← hp7]
      clear hw4 hp7 c3_0_1 c3_1_1 c4_0_1 c4_1_1 c7_0_1 c7_1_1
      refine (hM2 _).mono ?_
      rintro e w5 ⟨rfl, hb⟩
      have H3_5 := Lib.hid (H3_4.out.below' hb)
      have H4_5 := Lib.hid (H4_4.out.below' hb)
      have H7_5 := Lib.hid (H7_4.out.below' hb)
      have HB5 := Lib.hid (HB4.out.trans (hb.mono HB4.out.size))
      clear hb
      have c3_0_2 := H3_5.out.cell 0
      have c3_1_2 := H3_5.out.cell 1
      have c4_0_2 := H4_5.out.cell 0
      have c4_1_2 := H4_5.out.cell 1
      have c7_0_2 := H7_5.out.cell 0
      have c7_1_2 := H7_5.out.cell 1
      simp at c3_0_2 c3_1_2 c4_0_2 c4_1_2 c7_0_2 c7_1_2
      obtain ⟨p9, hp9⟩ : ∃ p, p = w5.heap.size := ⟨_, rfl⟩
      obtain ⟨w6, hw6⟩ : ∃ w', w' = w5.alloc (.cells #[.int .i64 m1, .int .i64 m2] 31) := ⟨_, rfl⟩
      have hb : Below w5.heap.size w5 w6 := hw6 ▸ (Below.refl _ w5).alloc (Nat.le_refl _) _
      have H3_6 := Lib.hid (H3_5.out.below' hb)
      have H4_6 := Lib.hid (H4_5.out.below' hb)
      have H7_6 := Lib.hid (H7_5.out.below' hb)
      have H9_6 : Hid (Sits w6 p9 31 #[.int .i64 m1, .int .i64 m2]) := Lib.hid (by rw [hw6, hp9]; exact Sits.fresh w5 _ _)
      have HB6 := Lib.hid (HB5.out.trans (hb.mono HB5.out.size))
      clear hb c3_0_2 c3_1_2 c4_0_2 c4_1_2 c7_0_2 c7_1_2
      have c3_0_3 := H3_6.out.cell 0
      have c3_1_3 := H3_6.out.cell 1
      have c4_0_3 := H4_6.out.cell 0
      have c4_1_3 := H4_6.out.cell 1
      have c7_0_3 := H7_6.out.cell 0
      have c7_1_3 := H7_6.out.cell 1
      have c9_0_3 := H9_6.out.cell 0
      have c9_1_3 := H9_6.out.cell 1
      simp at c3_0_3 c3_1_3 c4_0_3 c4_1_3 c7_0_3 c7_1_3 c9_0_3 c9_1_3
      rw [hw6] at c3_0_3 c3_1_3 c4_0_3 c4_1_3 c7_0_3 c7_1_3 c9_0_3 c9_1_3
      go_wp2_with fail
      rw [← hw6, ← hp9]
      clear hw6 hp9 c3_0_3 c3_1_3 c4_0_3 c4_1_3 c7_0_3 c7_1_3 c9_0_3 c9_1_3
      refine (hHa _).mono ?_
      rintro e w7 ⟨rfl, hb⟩
      have H3_7 := Lib.hid (H3_6.out.below' hb)
      have H4_7 := Lib.hid (H4_6.out.below' hb)
      have H7_7 := Lib.hid (H7_6.out.below' hb)
      have H9_7 := Lib.hid (H9_6.out.below' hb)
      have HB7 := Lib.hid (HB6.out.trans (hb.mono HB6.out.size))
      clear hb
      have c3_0_4 := H3_7.out.cell 0
      have c3_1_4 := H3_7.out.cell 1
      have c4_0_4 := H4_7.out.cell 0
      have c4_1_4 := H4_7.out.cell 1
      have c7_0_4 := H7_7.out.cell 0
      have c7_1_4 := H7_7.out.cell 1
      have c9_0_4 := H9_7.out.cell 0
      have c9_1_4 := H9_7.out.cell 1
      simp at c3_0_4 c3_1_4 c4_0_4 c4_1_4 c7_0_4 c7_1_4 c9_0_4 c9_1_4
      go_wp2_with fail
      clear c3_0_4 c3_1_4 c4_0_4 c4_1_4 c7_0_4 c7_1_4 c9_0_4 c9_1_4
      refine (hMs _).mono ?_
      rintro e w8 ⟨rfl, hb⟩
      have H3_8 := Lib.hid (H3_7.out.below' hb)
      have H4_8 := Lib.hid (H4_7.out.below' hb)
      have H7_8 := Lib.hid (H7_7.out.below' hb)
      have H9_8 := Lib.hid (H9_7.out.below' hb)
      have HB8 := Lib.hid (HB7.out.trans (hb.mono HB7.out.size))
      clear hb
      have c3_0_5 := H3_8.out.cell 0
      have c3_1_5 := H3_8.out.cell 1
      have c4_0_5 := H4_8.out.cell 0
      have c4_1_5 := H4_8.out.cell 1
      have c7_0_5 := H7_8.out.cell 0
      have c7_1_5 := H7_8.out.cell 1
      have c9_0_5 := H9_8.out.cell 0
      have c9_1_5 := H9_8.out.cell 1
      simp at c3_0_5 c3_1_5 c4_0_5 c4_1_5 c7_0_5 c7_1_5 c9_0_5 c9_1_5
      go_wp2_with fail
      clear c3_0_5 c3_1_5 c4_0_5 c4_1_5 c7_0_5 c7_1_5 c9_0_5 c9_1_5
      refine (hHm _).mono ?_
      rintro e w9 ⟨rfl, hb⟩
      have H3_9 := Lib.hid (H3_8.out.below' hb)
      have H4_9 := Lib.hid (H4_8.out.below' hb)
      have H7_9 := Lib.hid (H7_8.out.below' hb)
      have H9_9 := Lib.hid (H9_8.out.below' hb)
      have HB9 := Lib.hid (HB8.out.trans (hb.mono HB8.out.size))
      clear hb
      have c3_0_6 := H3_9.out.cell 0
      have c3_1_6 := H3_9.out.cell 1
      have c4_0_6 := H4_9.out.cell 0
      have c4_1_6 := H4_9.out.cell 1
      have c7_0_6 := H7_9.out.cell 0
      have c7_1_6 := H7_9.out.cell 1
      have c9_0_6 := H9_9.out.cell 0
      have c9_1_6 := H9_9.out.cell 1
      simp at c3_0_6 c3_1_6 c4_0_6 c4_1_6 c7_0_6 c7_1_6 c9_0_6 c9_1_6
      go_wp2_with fail
      clear c3_0_6 c3_1_6 c4_0_6 c4_1_6 c7_0_6 c7_1_6 c9_0_6 c9_1_6
      refine (hMa _).mono ?_
      rintro e w10 ⟨rfl, hb⟩
      have H3_10 := Lib.hid (H3_9.out.below' hb)
      have H4_10 := Lib.hid (H4_9.out.below' hb)
      have H7_10 := Lib.hid (H7_9.out.below' hb)
      have H9_10 := Lib.hid (H9_9.out.below' hb)
      have HB10 := Lib.hid (HB9.out.trans (hb.mono HB9.out.size))
      clear hb
      have c3_0_7 := H3_10.out.cell 0
      have c3_1_7 := H3_10.out.cell 1
      have c4_0_7 := H4_10.out.cell 0
      have c4_1_7 := H4_10.out.cell 1
      have c7_0_7 := H7_10.out.cell 0
      have c7_1_7 := H7_10.out.cell 1
      have c9_0_7 := H9_10.out.cell 0
      have c9_1_7 := H9_10.out.cell 1
      simp at c3_0_7 c3_1_7 c4_0_7 c4_1_7 c7_0_7 c7_1_7 c9_0_7 c9_1_7
      obtain ⟨p12, hp12⟩ : ∃ p, p = w10.heap.size := ⟨_, rfl⟩
      obtain ⟨w11, hw11⟩ : ∃ w', w' = w10.alloc (.cells #[.int .i64 a1, .int .i64 a2] 31) := ⟨_, rfl⟩
      have hb : Below w10.heap.size w10 w11 := hw11 ▸ (Below.refl _ w10).alloc (Nat.le_refl _) _
      have H3_11 := Lib.hid (H3_10.out.below' hb)
      have H4_11 := Lib.hid (H4_10.out.below' hb)
      have H7_11 := Lib.hid (H7_10.out.below' hb)
      have H9_11 := Lib.hid (H9_10.out.below' hb)
      have H12_11 : Hid (Sits w11 p12 31 #[.int .i64 a1, .int .i64 a2]) := Lib.hid (by rw [hw11, hp12]; exact Sits.fresh w10 _ _)
      have HB11 := Lib.hid (HB10.out.trans (hb.mono HB10.out.size))
      clear hb c3_0_7 c3_1_7 c4_0_7 c4_1_7 c7_0_7 c7_1_7 c9_0_7 c9_1_7
      have c3_0_8 := H3_11.out.cell 0
      have c3_1_8 := H3_11.out.cell 1
      have c4_0_8 := H4_11.out.cell 0
      have c4_1_8 := H4_11.out.cell 1
      have c7_0_8 := H7_11.out.cell 0
      have c7_1_8 := H7_11.out.cell 1
      have c9_0_8 := H9_11.out.cell 0
      have c9_1_8 := H9_11.out.cell 1
      have c12_0_8 := H12_11.out.cell 0
      have c12_1_8 := H12_11.out.cell 1
      simp at c3_0_8 c3_1_8 c4_0_8 c4_1_8 c7_0_8 c7_1_8 c9_0_8 c9_1_8 c12_0_8 c12_1_8
      rw [hw11] at c3_0_8 c3_1_8 c4_0_8 c4_1_8 c7_0_8 c7_1_8 c9_0_8 c9_1_8 c12_0_8 c12_1_8
      go_wp2_with fail
      rw [← hw11, ← hp12]
      clear hw11 hp12 c3_0_8 c3_1_8 c4_0_8 c4_1_8 c7_0_8 c7_1_8 c9_0_8 c9_1_8 c12_0_8 c12_1_8
      have HC := Lib.hid (And.intro (H3_11.out.cell 0) (And.intro (H3_11.out.cell 1) (And.intro (H4_11.out.cell 0) (And.intro (H4_11.out.cell 1) (And.intro (H7_11.out.cell 0) (And.intro (H7_11.out.cell 1) (And.intro (H12_11.out.cell 0) (H12_11.out.cell 1))))))))
      simp at HC
      have HL := Lib.hid (And.intro H3_11.out.lt (And.intro H4_11.out.lt (And.intro H7_11.out.lt H12_11.out.lt)))
      have HB := HB11
      refine wp_region_ex (by kernel_rfl) (fun W => Below w11.heap.size w11 W) (fun W W' => Below W.heap.size W W')
        [[], [(65, some 0)], [(13, none), (66, some 1)], [(3, none), (66, some 1)], [(66, some 1), (68, some 3)], [(66, some 1), (67, some 2), (69, some 4)], [(66, some 1), (70, some 5)], [(71, some 6)], [(13, none), (72, some 7)], [(72, some 7), (73, some 8)], [(72, some 7), (74, some 9)], [(12, none), (75, some 10)], [(3, none), (75, some 10)], [(75, some 10), (76, some 11), (77, some 12)], [(72, some 7), (75, some 10), (78, some 13)], [(72, some 7), (79, some 14)], [(80, some 15)], [(8, none), (81, some 16)], [(81, some 16), (82, some 17)], [(81, some 16), (83, some 18)], [(7, none), (84, some 19)], [(84, some 19), (85, some 20)], [(3, none), (84, some 19)], [(84, some 19), (87, some 22)], [(84, some 19), (86, some 21), (88, some 23)], [(84, some 19), (89, some 24)], [(7, none), (90, some 25)], [(90, some 25), (91, some 26)], [(4, none), (90, some 25)], [(90, some 25), (93, some 28)], [(90, some 25), (92, some 27), (94, some 29)], [(84, some 19), (90, some 25), (95, some 30)], [(81, some 16), (84, some 19), (96, some 31)], [(81, some 16), (97, some 32)], [(98, some 33)]]
        [none, none, none, none, none, none, some 34, none, none, none, none, none, none, none, none, none, none, none, none, none, none, none, none, none, none, none, none, none, none, none, none, none, none, none, none, none, none, none, none, none, none, none, none, none, none, none, none, none, none, none, none, none, none, none, none, none, none, none, none, none, none, none, none, none, none, some 0, some 1, some 2, some 3, some 4, some 5, some 6, some 7, some 8, some 9, some 10, some 11, some 12, some 13, some 14, some 15, some 16, some 17, some 18, some 19, some 20, some 21, some 22, some 23, some 24, some 25, some 26, some 27, some 28, some 29, some 30, some 31, some 32, some 33] (by kernel_rfl) (by kernel_rfl) ((Below.refl _ w11).drew) ?_
      refine ex_callx (.bool true) (fun a' W hR hF => ?_) ?_
      · simp only [FactsOf, List.nil_append, List.cons_append, List.getD_cons_zero, List.getD_cons_succ, exists_eq_left, and_true, List.getElem?_toArray, List.getElem?_cons_zero, List.getElem?_cons_succ] at hF
        exact ⟨by simp [Region.wanted, yielded, hF], 7, #[], by go_simp, (hAl W).mono fun e w' ⟨he, hb⟩ => ⟨he, hR.trans (hb.mono hR.size), hb⟩⟩
      iterate 3
        refine ex_pure (c := ?_) (fun W _ => Below.refl _ W) ?_ ?_
        rotate_left
        · intro a' W hR hF
          simp only [FactsOf, List.nil_append, List.cons_append, List.getD_cons_zero, List.getD_cons_succ, exists_eq_left, and_true, List.getElem?_toArray, List.getElem?_cons_zero, List.getElem?_cons_succ] at hF
          have k30 := (hR.cell (p := ⟨p3, 0, none⟩) HL.out.1).trans HC.out.1
          have k31 := (hR.cell (p := ⟨p3, 1, none⟩) HL.out.1).trans HC.out.2.1
          have k40 := (hR.cell (p := ⟨p4, 0, none⟩) HL.out.2.1).trans HC.out.2.2.1
          have k41 := (hR.cell (p := ⟨p4, 1, none⟩) HL.out.2.1).trans HC.out.2.2.2.1
          have k70 := (hR.cell (p := ⟨p7, 0, none⟩) HL.out.2.2.1).trans HC.out.2.2.2.2.1
          have k71 := (hR.cell (p := ⟨p7, 1, none⟩) HL.out.2.2.1).trans HC.out.2.2.2.2.2.1
          have kx0 := (hR.cell (p := ⟨p12, 0, none⟩) HL.out.2.2.2).trans HC.out.2.2.2.2.2.2.1
          have kx1 := (hR.cell (p := ⟨p12, 1, none⟩) HL.out.2.2.2).trans HC.out.2.2.2.2.2.2.2
          refine ⟨?_, ?_⟩
          · simp [Region.wanted, yielded, hF]
          · go_simp
            with_reducible rfl
      refine ex_callx (.bool true) (fun a' W hR hF => ?_) ?_
      · simp only [FactsOf, List.nil_append, List.cons_append, List.getD_cons_zero, List.getD_cons_succ, exists_eq_left, and_true, List.getElem?_toArray, List.getElem?_cons_zero, List.getElem?_cons_succ] at hF
        exact ⟨by simp [Region.wanted, yielded, hF], 15, #[.agg #[.int .i64 a1, .int .i64 a2]], by go_simp, (hV W).mono fun e w' ⟨he, hb⟩ => ⟨he, hR.trans (hb.mono hR.size), hb⟩⟩
      iterate 6
        refine ex_pure (c := ?_) (fun W _ => Below.refl _ W) ?_ ?_
        rotate_left
        · intro a' W hR hF
          simp only [FactsOf, List.nil_append, List.cons_append, List.getD_cons_zero, List.getD_cons_succ, exists_eq_left, and_true, List.getElem?_toArray, List.getElem?_cons_zero, List.getElem?_cons_succ] at hF
          have k30 := (hR.cell (p := ⟨p3, 0, none⟩) HL.out.1).trans HC.out.1
          have k31 := (hR.cell (p := ⟨p3, 1, none⟩) HL.out.1).trans HC.out.2.1
          have k40 := (hR.cell (p := ⟨p4, 0, none⟩) HL.out.2.1).trans HC.out.2.2.1
          have k41 := (hR.cell (p := ⟨p4, 1, none⟩) HL.out.2.1).trans HC.out.2.2.2.1
          have k70 := (hR.cell (p := ⟨p7, 0, none⟩) HL.out.2.2.1).trans HC.out.2.2.2.2.1
          have k71 := (hR.cell (p := ⟨p7, 1, none⟩) HL.out.2.2.1).trans HC.out.2.2.2.2.2.1
          have kx0 := (hR.cell (p := ⟨p12, 0, none⟩) HL.out.2.2.2).trans HC.out.2.2.2.2.2.2.1
          have kx1 := (hR.cell (p := ⟨p12, 1, none⟩) HL.out.2.2.2).trans HC.out.2.2.2.2.2.2.2
          refine ⟨?_, ?_⟩
          · simp [Region.wanted, yielded, hF]
          · go_simp
            with_reducible rfl
      iterate 3
        refine ex_pure (c := ?_) (fun W _ => Below.refl _ W) ?_ ?_
        rotate_left
        · intro a' W hR hF
          simp only [FactsOf, List.nil_append, List.cons_append, List.getD_cons_zero, List.getD_cons_succ, exists_eq_left, and_true, List.getElem?_toArray, List.getElem?_cons_zero, List.getElem?_cons_succ] at hF
          have k30 := (hR.cell (p := ⟨p3, 0, none⟩) HL.out.1).trans HC.out.1
          have k31 := (hR.cell (p := ⟨p3, 1, none⟩) HL.out.1).trans HC.out.2.1
          have k40 := (hR.cell (p := ⟨p4, 0, none⟩) HL.out.2.1).trans HC.out.2.2.1
          have k41 := (hR.cell (p := ⟨p4, 1, none⟩) HL.out.2.1).trans HC.out.2.2.2.1
          have k70 := (hR.cell (p := ⟨p7, 0, none⟩) HL.out.2.2.1).trans HC.out.2.2.2.2.1
          have k71 := (hR.cell (p := ⟨p7, 1, none⟩) HL.out.2.2.1).trans HC.out.2.2.2.2.2.1
          have kx0 := (hR.cell (p := ⟨p12, 0, none⟩) HL.out.2.2.2).trans HC.out.2.2.2.2.2.2.1
          have kx1 := (hR.cell (p := ⟨p12, 1, none⟩) HL.out.2.2.2).trans HC.out.2.2.2.2.2.2.2
          refine ⟨?_, ?_⟩
          · simp [Region.wanted, yielded, hF]
          · go_simp
            with_reducible rfl
      iterate 6
        refine ex_pure (c := ?_) (fun W _ => Below.refl _ W) ?_ ?_
        rotate_left
        · intro a' W hR hF
          simp only [FactsOf, List.nil_append, List.cons_append, List.getD_cons_zero, List.getD_cons_succ, exists_eq_left, and_true, List.getElem?_toArray, List.getElem?_cons_zero, List.getElem?_cons_succ] at hF
          have k30 := (hR.cell (p := ⟨p3, 0, none⟩) HL.out.1).trans HC.out.1
          have k31 := (hR.cell (p := ⟨p3, 1, none⟩) HL.out.1).trans HC.out.2.1
          have k40 := (hR.cell (p := ⟨p4, 0, none⟩) HL.out.2.1).trans HC.out.2.2.1
          have k41 := (hR.cell (p := ⟨p4, 1, none⟩) HL.out.2.1).trans HC.out.2.2.2.1
          have k70 := (hR.cell (p := ⟨p7, 0, none⟩) HL.out.2.2.1).trans HC.out.2.2.2.2.1
          have k71 := (hR.cell (p := ⟨p7, 1, none⟩) HL.out.2.2.1).trans HC.out.2.2.2.2.2.1
          have kx0 := (hR.cell (p := ⟨p12, 0, none⟩) HL.out.2.2.2).trans HC.out.2.2.2.2.2.2.1
          have kx1 := (hR.cell (p := ⟨p12, 1, none⟩) HL.out.2.2.2).trans HC.out.2.2.2.2.2.2.2
          refine ⟨?_, ?_⟩
          · simp [Region.wanted, yielded, hF]
          · go_simp
            with_reducible rfl
      refine ex_pure (c := ?_) (fun W _ => Below.refl _ W) ?_ ?_
      rotate_left
      · intro a' W hR hF
        simp only [FactsOf, List.nil_append, List.cons_append, List.getD_cons_zero, List.getD_cons_succ, exists_eq_left, and_true, List.getElem?_toArray, List.getElem?_cons_zero, List.getElem?_cons_succ] at hF
        have k30 := (hR.cell (p := ⟨p3, 0, none⟩) HL.out.1).trans HC.out.1
        have k31 := (hR.cell (p := ⟨p3, 1, none⟩) HL.out.1).trans HC.out.2.1
        have k40 := (hR.cell (p := ⟨p4, 0, none⟩) HL.out.2.1).trans HC.out.2.2.1
        have k41 := (hR.cell (p := ⟨p4, 1, none⟩) HL.out.2.1).trans HC.out.2.2.2.1
        have k70 := (hR.cell (p := ⟨p7, 0, none⟩) HL.out.2.2.1).trans HC.out.2.2.2.2.1
        have k71 := (hR.cell (p := ⟨p7, 1, none⟩) HL.out.2.2.1).trans HC.out.2.2.2.2.2.1
        have kx0 := (hR.cell (p := ⟨p12, 0, none⟩) HL.out.2.2.2).trans HC.out.2.2.2.2.2.2.1
        have kx1 := (hR.cell (p := ⟨p12, 1, none⟩) HL.out.2.2.2).trans HC.out.2.2.2.2.2.2.2
        refine ⟨?_, ?_⟩
        · simp [Region.wanted, yielded, hF]
        · go_simp
          with_reducible rfl
      refine ex_callx (.int .i64 lm) (fun a' W hR hF => ?_) ?_
      · simp only [FactsOf, List.nil_append, List.cons_append, List.getD_cons_zero, List.getD_cons_succ, exists_eq_left, and_true, List.getElem?_toArray, List.getElem?_cons_zero, List.getElem?_cons_succ] at hF
        exact ⟨by simp [Region.wanted, yielded, hF], 18, #[.agg #[.int .i64 m1, .int .i64 m2]], by go_simp, (hLm W).mono fun e w' ⟨he, hb⟩ => ⟨he, hR.trans (hb.mono hR.size), hb⟩⟩
      refine ex_pure (c := ?_) (fun W _ => Below.refl _ W) ?_ ?_
      rotate_left
      · intro a' W hR hF
        simp only [FactsOf, List.nil_append, List.cons_append, List.getD_cons_zero, List.getD_cons_succ, exists_eq_left, and_true, List.getElem?_toArray, List.getElem?_cons_zero, List.getElem?_cons_succ] at hF
        have k30 := (hR.cell (p := ⟨p3, 0, none⟩) HL.out.1).trans HC.out.1
        have k31 := (hR.cell (p := ⟨p3, 1, none⟩) HL.out.1).trans HC.out.2.1
        have k40 := (hR.cell (p := ⟨p4, 0, none⟩) HL.out.2.1).trans HC.out.2.2.1
        have k41 := (hR.cell (p := ⟨p4, 1, none⟩) HL.out.2.1).trans HC.out.2.2.2.1
        have k70 := (hR.cell (p := ⟨p7, 0, none⟩) HL.out.2.2.1).trans HC.out.2.2.2.2.1
        have k71 := (hR.cell (p := ⟨p7, 1, none⟩) HL.out.2.2.1).trans HC.out.2.2.2.2.2.1
        have kx0 := (hR.cell (p := ⟨p12, 0, none⟩) HL.out.2.2.2).trans HC.out.2.2.2.2.2.2.1
        have kx1 := (hR.cell (p := ⟨p12, 1, none⟩) HL.out.2.2.2).trans HC.out.2.2.2.2.2.2.2
        refine ⟨?_, ?_⟩
        · simp [Region.wanted, yielded, hF]
        · go_simp
          with_reducible rfl
      refine ex_callx (.int .i64 la) (fun a' W hR hF => ?_) ?_
      · simp only [FactsOf, List.nil_append, List.cons_append, List.getD_cons_zero, List.getD_cons_succ, exists_eq_left, and_true, List.getElem?_toArray, List.getElem?_cons_zero, List.getElem?_cons_succ] at hF
        exact ⟨by simp [Region.wanted, yielded, hF], 18, #[.agg #[.int .i64 a1, .int .i64 a2]], by go_simp, (hLa W).mono fun e w' ⟨he, hb⟩ => ⟨he, hR.trans (hb.mono hR.size), hb⟩⟩
      iterate 3
        refine ex_pure (c := ?_) (fun W _ => Below.refl _ W) ?_ ?_
        rotate_left
        · intro a' W hR hF
          simp only [FactsOf, List.nil_append, List.cons_append, List.getD_cons_zero, List.getD_cons_succ, exists_eq_left, and_true, List.getElem?_toArray, List.getElem?_cons_zero, List.getElem?_cons_succ] at hF
          have k30 := (hR.cell (p := ⟨p3, 0, none⟩) HL.out.1).trans HC.out.1
          have k31 := (hR.cell (p := ⟨p3, 1, none⟩) HL.out.1).trans HC.out.2.1
          have k40 := (hR.cell (p := ⟨p4, 0, none⟩) HL.out.2.1).trans HC.out.2.2.1
          have k41 := (hR.cell (p := ⟨p4, 1, none⟩) HL.out.2.1).trans HC.out.2.2.2.1
          have k70 := (hR.cell (p := ⟨p7, 0, none⟩) HL.out.2.2.1).trans HC.out.2.2.2.2.1
          have k71 := (hR.cell (p := ⟨p7, 1, none⟩) HL.out.2.2.1).trans HC.out.2.2.2.2.2.1
          have kx0 := (hR.cell (p := ⟨p12, 0, none⟩) HL.out.2.2.2).trans HC.out.2.2.2.2.2.2.1
          have kx1 := (hR.cell (p := ⟨p12, 1, none⟩) HL.out.2.2.2).trans HC.out.2.2.2.2.2.2.2
          refine ⟨?_, ?_⟩
          · simp [Region.wanted, yielded, hF]
          · go_simp
            with_reducible rfl
      refine ex_callx (.int .i64 lm) (fun a' W hR hF => ?_) ?_
      · simp only [FactsOf, List.nil_append, List.cons_append, List.getD_cons_zero, List.getD_cons_succ, exists_eq_left, and_true, List.getElem?_toArray, List.getElem?_cons_zero, List.getElem?_cons_succ] at hF
        exact ⟨by simp [Region.wanted, yielded, hF], 18, #[.agg #[.int .i64 m1, .int .i64 m2]], by go_simp, (hLm W).mono fun e w' ⟨he, hb⟩ => ⟨he, hR.trans (hb.mono hR.size), hb⟩⟩
      refine ex_pure (c := ?_) (fun W _ => Below.refl _ W) ?_ ?_
      rotate_left
      · intro a' W hR hF
        simp only [FactsOf, List.nil_append, List.cons_append, List.getD_cons_zero, List.getD_cons_succ, exists_eq_left, and_true, List.getElem?_toArray, List.getElem?_cons_zero, List.getElem?_cons_succ] at hF
        have k30 := (hR.cell (p := ⟨p3, 0, none⟩) HL.out.1).trans HC.out.1
        have k31 := (hR.cell (p := ⟨p3, 1, none⟩) HL.out.1).trans HC.out.2.1
        have k40 := (hR.cell (p := ⟨p4, 0, none⟩) HL.out.2.1).trans HC.out.2.2.1
        have k41 := (hR.cell (p := ⟨p4, 1, none⟩) HL.out.2.1).trans HC.out.2.2.2.1
        have k70 := (hR.cell (p := ⟨p7, 0, none⟩) HL.out.2.2.1).trans HC.out.2.2.2.2.1
        have k71 := (hR.cell (p := ⟨p7, 1, none⟩) HL.out.2.2.1).trans HC.out.2.2.2.2.2.1
        have kx0 := (hR.cell (p := ⟨p12, 0, none⟩) HL.out.2.2.2).trans HC.out.2.2.2.2.2.2.1
        have kx1 := (hR.cell (p := ⟨p12, 1, none⟩) HL.out.2.2.2).trans HC.out.2.2.2.2.2.2.2
        refine ⟨?_, ?_⟩
        · simp [Region.wanted, yielded, hF]
        · go_simp
          with_reducible rfl
      refine ex_callx (.int .i64 lb) (fun a' W hR hF => ?_) ?_
      · simp only [FactsOf, List.nil_append, List.cons_append, List.getD_cons_zero, List.getD_cons_succ, exists_eq_left, and_true, List.getElem?_toArray, List.getElem?_cons_zero, List.getElem?_cons_succ] at hF
        exact ⟨by simp [Region.wanted, yielded, hF], 18, #[.agg #[.int .i64 b1, .int .i64 b2]], by go_simp, (hLb W).mono fun e w' ⟨he, hb⟩ => ⟨he, hR.trans (hb.mono hR.size), hb⟩⟩
      iterate 2
        refine ex_pure (c := ?_) (fun W _ => Below.refl _ W) ?_ ?_
        rotate_left
        · intro a' W hR hF
          simp only [FactsOf, List.nil_append, List.cons_append, List.getD_cons_zero, List.getD_cons_succ, exists_eq_left, and_true, List.getElem?_toArray, List.getElem?_cons_zero, List.getElem?_cons_succ] at hF
          have k30 := (hR.cell (p := ⟨p3, 0, none⟩) HL.out.1).trans HC.out.1
          have k31 := (hR.cell (p := ⟨p3, 1, none⟩) HL.out.1).trans HC.out.2.1
          have k40 := (hR.cell (p := ⟨p4, 0, none⟩) HL.out.2.1).trans HC.out.2.2.1
          have k41 := (hR.cell (p := ⟨p4, 1, none⟩) HL.out.2.1).trans HC.out.2.2.2.1
          have k70 := (hR.cell (p := ⟨p7, 0, none⟩) HL.out.2.2.1).trans HC.out.2.2.2.2.1
          have k71 := (hR.cell (p := ⟨p7, 1, none⟩) HL.out.2.2.1).trans HC.out.2.2.2.2.2.1
          have kx0 := (hR.cell (p := ⟨p12, 0, none⟩) HL.out.2.2.2).trans HC.out.2.2.2.2.2.2.1
          have kx1 := (hR.cell (p := ⟨p12, 1, none⟩) HL.out.2.2.2).trans HC.out.2.2.2.2.2.2.2
          refine ⟨?_, ?_⟩
          · simp [Region.wanted, yielded, hF]
          · go_simp
            with_reducible rfl
      iterate 3
        refine ex_pure (c := ?_) (fun W _ => Below.refl _ W) ?_ ?_
        rotate_left
        · intro a' W hR hF
          simp only [FactsOf, List.nil_append, List.cons_append, List.getD_cons_zero, List.getD_cons_succ, exists_eq_left, and_true, List.getElem?_toArray, List.getElem?_cons_zero, List.getElem?_cons_succ] at hF
          have k30 := (hR.cell (p := ⟨p3, 0, none⟩) HL.out.1).trans HC.out.1
          have k31 := (hR.cell (p := ⟨p3, 1, none⟩) HL.out.1).trans HC.out.2.1
          have k40 := (hR.cell (p := ⟨p4, 0, none⟩) HL.out.2.1).trans HC.out.2.2.1
          have k41 := (hR.cell (p := ⟨p4, 1, none⟩) HL.out.2.1).trans HC.out.2.2.2.1
          have k70 := (hR.cell (p := ⟨p7, 0, none⟩) HL.out.2.2.1).trans HC.out.2.2.2.2.1
          have k71 := (hR.cell (p := ⟨p7, 1, none⟩) HL.out.2.2.1).trans HC.out.2.2.2.2.2.1
          have kx0 := (hR.cell (p := ⟨p12, 0, none⟩) HL.out.2.2.2).trans HC.out.2.2.2.2.2.2.1
          have kx1 := (hR.cell (p := ⟨p12, 1, none⟩) HL.out.2.2.2).trans HC.out.2.2.2.2.2.2.2
          refine ⟨?_, ?_⟩
          · simp [Region.wanted, yielded, hF]
          · go_simp
            with_reducible rfl
      show ∀ W, _ → _
      intro W hR
      simp only [FinOf, List.nil_append, List.cons_append, List.getD_cons_zero, List.getD_cons_succ, forall_eq, forall_exists_index, and_imp, Nat.reduceAdd, Array.getD_eq_getD_getElem?, List.getElem?_toArray, List.getElem?_cons_zero, List.getElem?_cons_succ, Option.getD_some]
      go_wp2
      go_ret
      exact ⟨rfl, HB.out.trans (hR.mono HB.out.size)⟩

theorem spanMeets_walk (v0 : Value) (s : S) (v1 : Value) (t : S) (c : Int) (_wc : (Lit.int .i64 c).wf = true) (w : World)
    (h0 : ((-9223372036854775808 ≤ s.1 ∧ s.1 ≤ 9223372036854775807) ∧ (-9223372036854775808 ≤ s.2 ∧ s.2 ≤ 9223372036854775807)) ∧ v0 = aggS s)
    (h1 : ((-9223372036854775808 ≤ t.1 ∧ t.1 ≤ 9223372036854775807) ∧ (-9223372036854775808 ≤ t.2 ∧ t.2 ≤ 9223372036854775807)) ∧ v1 = aggS t) :
    Calls Try.prog 6 #[v0, v1, .int .i64 c] w fun e w' => e = .returned (.bool true) ∧ Below w.heap.size w w' := by
  rw [h0.2, h1.2]
  exact meets_law s.1 s.2 t.1 t.2 c (by unfold top; omega) (by unfold top; omega) w
set_option maxRecDepth 100000 in
theorem spanMeets_lifted (os : Os) (started : os.Started) (H : Type) (enc : TypeId × Value → H) :
    ReturnsInHanded {} Try.checked os 6 .any (Rows.spanMeetsSpec.pre6 enc Try.prog Try.f6 Rows.spanMeetsRow.domain false) (Rows.spanMeetsSpec.post enc Try.prog Try.f6 false true false false) := by
  refine returnsInHanded_of_change (C := Try.checked) own started (by kernel_rfl) Try.func6
    (ChangeSpec.witness6 (enc := enc) (C := Try.checked) false ⟨#[], #[.agg #[.int .i64 0, .int .i64 0], .agg #[.int .i64 0, .int .i64 0], .int .i64 0], []⟩ 8 (by kernel_rfl) (by kernel_rfl) (by kernel_rfl) (by kernel_rfl)) ?_
  intro W base args ds gs before hval0 hW _ _
  have hval : ∀ (j : Nat) t v, Try.f6.params[j]? = some t → args[j]? = some v → Value.okWide Try.prog W .any base t v := hval0
  have hW' := hW
  obtain ⟨p, q, hA0, hV, rfl, hfz, hnd⟩ := hW
  have hA : DataW.TrodAll enc Try.prog W 0 (fun _ => true) true Try.f6.params.toList args.toList ds p := hA0
  rw [Try.params6] at hA hval
  obtain ⟨v0, vs0, d0, ds0, p0, q0, hargs, rfl, rfl, h0, r0⟩ := trodAll_cons hA
  obtain ⟨v1, vs1, d1, ds1, p1, q1, rfl, rfl, rfl, h1, r1⟩ := trodAll_cons r0
  obtain ⟨v2, vs2, d2, ds2, p2, q2, rfl, rfl, rfl, h2, r2⟩ := trodAll_cons r1
  obtain ⟨rfl, rfl, rfl⟩ := trodAll_nil r2
  obtain rfl : args = #[v0, v1, v2] := by cases args; simp_all
  obtain ⟨rfl, rfl⟩ := trodVars_none hV
  have k0 := h0
  have lt0 : ∀ x ∈ p0, x.block < W.heap.size := by obtain ⟨m, hm⟩ := k0; exact DataW.trod_lt m _ _ _ hm
  have k1 := h1
  have lt1 : ∀ x ∈ p1, x.block < W.heap.size := by obtain ⟨m, hm⟩ := k1; exact DataW.trod_lt m _ _ _ hm
  have k2 := h2
  have lt2 : ∀ x ∈ p2, x.block < W.heap.size := by obtain ⟨m, hm⟩ := k2; exact DataW.trod_lt m _ _ _ hm
  obtain ⟨a0, w0⟩ := span_open (hval 0 31 v0 rfl rfl) k0
  obtain ⟨a1, w1⟩ := span_open (hval 1 31 v1 rfl rfl) k1
  obtain ⟨a2, rfl, rfl, rfl, w2⟩ := open_int Try.underlying3 (hval 2 3 v2 rfl rfl) h2
  clear hA0 hval0
  refine (spanMeets_walk v0 a0 v1 a1 a2 w2 W w0 w1).mono fun e W' ⟨he, bel⟩ => ?_
  subst he
  exact ⟨_, rfl, _, _, _, [], _, [], hW', trodAll_mk1 (shut_bool Try.underlying4 _), (trodAll_cons_mk (Below.trod laidOut (by kernel_rfl) (of_decide_eq_true (by kernel_rfl)) k0 bel lt0) (trodAll_cons_mk (Below.trod laidOut (by kernel_rfl) (of_decide_eq_true (by kernel_rfl)) k1 bel lt1) (trodAll_cons_mk (Below.trod laidOut (by kernel_rfl) (of_decide_eq_true (by kernel_rfl)) k2 bel lt2) trodAll_mk0))), rfl, bel.frame _, fun h => by cases h⟩

theorem spanMeets_said : Rows.SpanMeetsSaid :=
  OpenClaim.holds_of_wide 6 Try.f6 rfl rfl rfl rfl rfl rfl rfl ⟨rfl, rfl, rfl, rfl, rfl⟩ rfl rfl rfl rfl rfl (by kernel_rfl) Try.func6 (by kernel_rfl)
    (of_decide_eq_true (by kernel_rfl)) (by unfold Func.isWrapper; first | (rw [if_pos (by decide +kernel)]; kernel_rfl) | (rw [if_neg (by decide +kernel)]; exact ⟨rfl, rfl⟩))
    (fun os started H enc _ => spanMeets_lifted os started H enc)
end Go.Proofs.Ytbaldeaejnmdpaa
