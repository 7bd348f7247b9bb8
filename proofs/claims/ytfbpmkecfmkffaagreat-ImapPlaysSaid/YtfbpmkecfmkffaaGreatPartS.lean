/- commonsref1's Map.Parts: the parts of a map within a span. -/
import Derived.Test.YtfbpmkecfmkffaaGreatPartM
import Derived.Test.YtfbpmkecfmkffaaGreatPartD
import Derived.Test.YtfbpmkecfmkffaaGreatGD
import Derived.BigRegion
import Derived.BigQuiet
namespace Go.Proofs.YtfbpmkecfmkffaaGreat
open Go Go.RowKit SpanP PartP
set_option maxRecDepth 100000
set_option maxHeartbeats 1000000
set_option linter.unusedSimpArgs false

/-- The parts within a span, one by one. -/
def within (s : S) : List Pt → List Pt
  | [] => []
  | x :: l => (match meet x.1 s with | some m => [(m, x.2)] | none => []) ++ within s l
theorem within_append (s : S) : ∀ a b : List Pt, within s (a ++ b) = within s a ++ within s b
  | [], b => rfl
  | x :: a, b => by simp only [List.cons_append, within, within_append s a b, List.append_assoc]
theorem within_take {s : S} {l : List Pt} {k : Nat} (h : k < l.length) : within s (l.take (k + 1)) = within s (l.take k) ++ (match meet l[k].1 s with | some m => [(m, l[k].2)] | none => []) := by
  rw [List.take_succ_eq_append_getElem h, within_append]
  simp [within]
theorem within_length (s : S) : ∀ l : List Pt, (within s l).length ≤ l.length
  | [] => Nat.le_refl _
  | x :: l => by
    have := within_length s l
    simp only [within, List.length_append, List.length_cons]
    cases meet x.1 s <;> simp <;> omega
theorem with_keyS {P : Program} {c : Code} {Q : Exit → Act → World → Prop} {a : Act} {w : World} (C : World → Nat → Prop) (f : Nat → Act) (hk : ∀ w6 p6, C w6 p6 → Q .normal (f p6) w6) (h : (∀ w6 p6, C w6 p6 → Q .normal (f p6) w6) → c.wp P Q a w) : c.wp P Q a w := h hk
theorem refparts_any (x : Value) (l : List Pt) (s : S) (w : World) (h : Parts w x l) (hl : l.length ≤ 1000) :
    Calls Tryz.prog 11 #[x, aggS s] w fun e w' => ∃ r, e = .returned r ∧ QRow w' w.heap.size r (within s l) ∧ Below w.heap.size w w' := by
  obtain ⟨A, ca, rfl, ha1, ha2, ha3⟩ := Parts.read h
  have HA := Lib.hid ha3
  have HL := Lib.hid hl
  have hcl : (l.length : Int) ≤ 9223372036854775807 := by omega
  obtain ⟨s0, s1⟩ := s
  unfold aggS
  simp only
  obtain ⟨w1, hw1⟩ : ∃ w1, w1 = w.alloc (.cells #[.int .i64 s0, .int .i64 s1] 50) := ⟨_, rfl⟩
  obtain ⟨ps, hps⟩ : ∃ p, p = w.heap.size := ⟨_, rfl⟩
  have sp : Sits w1 ps 50 #[.int .i64 s0, .int .i64 s1] := hw1 ▸ hps ▸ Sits.fresh w _ _
  have hB1 : Below w.heap.size w w1 := hw1 ▸ (Below.refl _ w).alloc (Nat.le_refl _) _
  have SP := Lib.hid sp
  have HB1 := Lib.hid hB1
  have HPS : Hid (w.heap.size ≤ ps ∧ ps < w1.heap.size) := Lib.hid ⟨Nat.le_of_eq hps.symm, sp.lt⟩
  clear ha3 h hl sp hB1
  go_enter Tryz.func11, Tryz.ntmps11
  go_wp2_with fail
  rw [← hw1, ← hps]
  clear hw1 hps
  go_loopw [5, 6] (fun r i wr => ∃ k : Nat, k ≤ l.length ∧ i = .int .i64 k ∧ Hid (QRow wr w1.heap.size r (within (s0, s1) (l.take k)) ∧ Below w1.heap.size w1 wr)) (fun _ i _ => l.length - (intOf i).toNat)
  case atStart => exact ⟨0, by omega, rfl, Lib.hid ⟨QRow.nil _ _, Below.refl _ _⟩⟩
  case round =>
    obtain ⟨k, hk, rfl, hI⟩ := hrel
    by_cases hlt : k < l.length
    · obtain ⟨b, o, rfl, hb, c0, c1, c2⟩ := HA.out k hlt
      have hnx := within_take (s := (s0, s1)) hlt
      have hlen : (within (s0, s1) (l.take k)).length ≤ 1000 := Nat.le_trans (within_length _ _) (by have := HL.out; rw [List.length_take]; omega)
      have hbw := HB1.out.trans (hI.out.2.mono HB1.out.size)
      rw [← hbw.cell (p := ⟨b, o + k * 3, none⟩) hb] at c0
      rw [← hbw.cell (p := ⟨b, o + k * 3 + 1, none⟩) hb] at c1
      rw [← hbw.cell (p := ⟨b, o + k * 3 + 2, none⟩) hb] at c2
      generalize hy : l[k] = y at c0 c1 c2 hnx
      obtain ⟨⟨y0, y1⟩, yv⟩ := y
      simp only at c0 c1 c2 hnx
      have hR := hI.out.1
      obtain ⟨f, hf⟩ : ∃ f, f = within (s0, s1) (l.take k) := ⟨_, rfl⟩
      rw [← hf] at hnx hR hlen
      obtain ⟨AR, cr, rfl, hcr, -, -, -⟩ := hR.form
      have sp := SP.out.below' hI.out.2
      have q0 := sp.cell 0
      have q1 := sp.cell 1
      simp at q0 q1
      have hbl : b < wr.heap.size := Nat.lt_of_lt_of_le hb hbw.size
      have hba : Below wr.heap.size wr (wr.alloc (.cells #[.int .i64 0, .int .i64 0] 50)).drew := ((Below.refl _ wr).alloc (Nat.le_refl _) _).drew
      have e0 := (hba.cell (p := ⟨b, o + k * 3, none⟩) hbl).trans c0
      have e1 := (hba.cell (p := ⟨b, o + k * 3 + 1, none⟩) hbl).trans c1
      have r0 := (hba.cell (p := ⟨ps, 0, none⟩) sp.lt).trans q0
      have r1 := (hba.cell (p := ⟨ps, 1, none⟩) sp.lt).trans q1
      have HR := Lib.hid hR
      have HNX := Lib.hid hnx
      have HBW := Lib.hid hbw
      have HC2 := Lib.hid (And.intro hbl c2)
      have HLEN := Lib.hid hlen
      have HI2 : Hid (Below w1.heap.size w1 wr) := Lib.hid hI.out.2
      clear hb hnx hlen hbw hy hR hf hcr sp hbl hba hI c2
      rcases hmm : meet (y0, y1) (s0, s1) with _ | m
      · have hmt : ∀ W : World, Calls Tryz.prog 27 #[.agg #[.int .i64 y0, .int .i64 y1], .agg #[.int .i64 s0, .int .i64 s1]] W fun e w' => e = .returned (.tuple #[.agg #[.int .i64 0, .int .i64 0], .bool false]) ∧ Below W.heap.size W w' := fun W => by
          have := refmeet_any (y0, y1) (s0, s1) W
          rw [hmm] at this
          exact this
        have HNX2 : Hid (within (s0, s1) (l.take (k + 1)) = f) := Lib.hid (by rw [HNX.out, hmm]; simp)
        clear hmm
        go_wp2_with fail
        refine with_keyS (fun w6 p6 => Sits w6 p6 50 #[.int .i64 0, .int .i64 0] ∧ Below wr.heap.size wr w6) (fun p6 => { tmps := #[.slice (some ⟨b, o, none⟩) l.length ca, .agg #[.int .i64 s0, .int .i64 s1], undef, .pointer (some ⟨ps, 0, none⟩), .slice none 0 0, .slice AR f.length cr, .int .i64 k, .pointer (some ⟨p6, 0, none⟩), .bool false, .int .i64 k, .slice (some ⟨b, o, none⟩) l.length ca, .int .i64 l.length, .bool true, u13, u14, .tuple #[.agg #[.int .i64 0, .int .i64 0], .bool false], .slice (some ⟨b, o, none⟩) l.length ca, .int .i64 k, .pointer (some ⟨b, o + k * 3, none⟩), .pointer (some ⟨b, o + k * 3, none⟩), .agg #[.int .i64 y0, .int .i64 y1], .agg #[.int .i64 s0, .int .i64 s1], .tuple #[.agg #[.int .i64 0, .int .i64 0], .bool false], .agg #[.int .i64 0, .int .i64 0], .bool false, u25, u26, u27, u28, u29, u30, u31, u32, u33, u34, u35, undef], defers := [] }) ?_ ?_
        · rintro w6 p6 ⟨-, hB6⟩
          have HN : Hid (QRow w6 w1.heap.size (.slice AR f.length cr) (within (s0, s1) (l.take (k + 1))) ∧ Below w1.heap.size w1 w6) := Lib.hid ⟨HNX2.out ▸ HR.out.below hB6, HI2.out.trans (hB6.mono HI2.out.size)⟩
          clear hB6 hmt e0 e1 r0 r1 c0 c1 q0 q1
          go_wp2_with fail
          go_roundw
          case rel => exact ⟨k + 1, by omega, by go_num, HN⟩
          case measure => simp [intOf]; omega
        · intro key
          go_region_law (go_simp; go_at_call 27; refine (hmt _).mono ?_; rintro e w4 ⟨rfl, hb4⟩; first | (have z : Sits w4 wr.heap.size 50 #[.int .i64 0, .int .i64 0] := (Sits.fresh wr 50 #[.int .i64 0, .int .i64 0]).drew.below' hb4; have z0 := z.cell 0; have z1 := z.cell 1; have f0 := z.warm 0; have f1 := z.warm 1; simp at z0 z1) | skip)
          all_goals
            first
            | (have s6 : Sits ((w4.setCell ⟨wr.heap.size, 0, none⟩ (.int .i64 0)).setCell ⟨wr.heap.size, 1, none⟩ (.int .i64 0)) wr.heap.size 50 #[.int .i64 0, .int .i64 0] := by
                 have := (((Sits.fresh wr 50 #[.int .i64 0, .int .i64 0]).drew.below' hb4).put 0 (.int .i64 0)).put 1 (.int .i64 0)
                 simpa using this
               exact key _ _ ⟨s6, below_put (below_put ((((Below.refl _ wr).alloc (Nat.le_refl _) _).drew).trans (hb4.mono (by show wr.heap.size ≤ (wr.alloc _).heap.size; rw [World.size_alloc]; exact Nat.le_succ _))) (Nat.le_refl _) _ _) (Nat.le_refl _) _ _⟩)
            | exact key _ _ ⟨Sits.fresh w4 50 #[.int .i64 0, .int .i64 0], (((Below.refl _ wr).drew).trans hb4).alloc (((Below.refl _ wr).drew).trans hb4).size _⟩
      · have hmt : ∀ W : World, Calls Tryz.prog 27 #[.agg #[.int .i64 y0, .int .i64 y1], .agg #[.int .i64 s0, .int .i64 s1]] W fun e w' => e = .returned (.tuple #[.agg #[.int .i64 m.1, .int .i64 m.2], .bool true]) ∧ Below W.heap.size W w' := fun W => by
          have := refmeet_any (y0, y1) (s0, s1) W
          rw [hmm] at this
          exact this
        have HNX2 : Hid (within (s0, s1) (l.take (k + 1)) = f ++ [(m, yv)]) := Lib.hid (by rw [HNX.out, hmm])
        clear hmm
        go_wp2_with fail
        refine with_keyS (fun w6 p6 => Sits w6 p6 50 #[.int .i64 m.1, .int .i64 m.2] ∧ Below wr.heap.size wr w6) (fun p6 => { tmps := #[.slice (some ⟨b, o, none⟩) l.length ca, .agg #[.int .i64 s0, .int .i64 s1], undef, .pointer (some ⟨ps, 0, none⟩), .slice none 0 0, .slice AR f.length cr, .int .i64 k, .pointer (some ⟨p6, 0, none⟩), .bool true, .int .i64 k, .slice (some ⟨b, o, none⟩) l.length ca, .int .i64 l.length, .bool true, u13, u14, .tuple #[.agg #[.int .i64 m.1, .int .i64 m.2], .bool true], .slice (some ⟨b, o, none⟩) l.length ca, .int .i64 k, .pointer (some ⟨b, o + k * 3, none⟩), .pointer (some ⟨b, o + k * 3, none⟩), .agg #[.int .i64 y0, .int .i64 y1], .agg #[.int .i64 s0, .int .i64 s1], .tuple #[.agg #[.int .i64 m.1, .int .i64 m.2], .bool true], .agg #[.int .i64 m.1, .int .i64 m.2], .bool true, u25, u26, u27, u28, u29, u30, u31, u32, u33, u34, u35, undef], defers := [] }) ?_ ?_
        · rintro w6 p6 ⟨s6, hB6⟩
          have hb7 : Below w1.heap.size w1 w6 := HI2.out.trans (hB6.mono HI2.out.size)
          obtain ⟨A9, c9, w9, hr9, hR9, hB9, -, -, -⟩ := pushQ_one (W := w6.drew) ((HR.out.below hB6).keep fun _ _ => rfl) (m, yv) hb7.size (by have := HLEN.out; omega) 27
          simp only at hr9
          have z0 := s6.cell 0
          have z1 := s6.cell 1
          simp at z0 z1
          have zc := (hB6.cell (p := ⟨b, o + k * 3 + 2, none⟩) HC2.out.1).trans HC2.out.2
          have hba2 : Below w6.heap.size w6 (w6.drew.alloc (.cells #[.int .i64 m.1, .int .i64 m.2, .int .i64 yv] 58)) := ((Below.refl _ w6).drew).alloc (Nat.le_refl _) _
          have HN : Hid (QRow w9 w1.heap.size (.slice A9 (f.length + 1 : Nat) c9) (within (s0, s1) (l.take (k + 1))) ∧ Below w1.heap.size w1 w9) := Lib.hid ⟨by rw [HNX2.out]; exact hR9, hb7.drew.trans hB9⟩
          clear hB6 hmt e0 e1 r0 r1 c0 c1 q0 q1 hR9 hB9 hb7 s6 hba2
          go_wp2_with fail
          go_region_law (refine step_append_eq rfl (.tmp 26) (.tmp 34) 27 27 rfl _ _ _ (by simp [Act.eval, Act.put]) (by simp [Act.eval, Act.put]) hr9 ?_)
          all_goals
            go_wp2_with fail
            go_roundw
            case rel => exact ⟨k + 1, by omega, by go_num, HN⟩
            case measure => simp [intOf]; omega
        · intro key
          go_region_law (go_simp; go_at_call 27; refine (hmt _).mono ?_; rintro e w4 ⟨rfl, hb4⟩; first | (have z : Sits w4 wr.heap.size 50 #[.int .i64 0, .int .i64 0] := (Sits.fresh wr 50 #[.int .i64 0, .int .i64 0]).drew.below' hb4; have z0 := z.cell 0; have z1 := z.cell 1; have f0 := z.warm 0; have f1 := z.warm 1; simp at z0 z1) | skip)
          all_goals
            first
            | (have s6 : Sits ((w4.setCell ⟨wr.heap.size, 0, none⟩ (.int .i64 m.1)).setCell ⟨wr.heap.size, 1, none⟩ (.int .i64 m.2)) wr.heap.size 50 #[.int .i64 m.1, .int .i64 m.2] := by
                 have := (((Sits.fresh wr 50 #[.int .i64 0, .int .i64 0]).drew.below' hb4).put 0 (.int .i64 m.1)).put 1 (.int .i64 m.2)
                 simpa using this
               exact key _ _ ⟨s6, below_put (below_put ((((Below.refl _ wr).alloc (Nat.le_refl _) _).drew).trans (hb4.mono (by show wr.heap.size ≤ (wr.alloc _).heap.size; rw [World.size_alloc]; exact Nat.le_succ _))) (Nat.le_refl _) _ _) (Nat.le_refl _) _ _⟩)
            | exact key _ _ ⟨Sits.fresh w4 50 #[.int .i64 m.1, .int .i64 m.2], (((Below.refl _ wr).drew).trans hb4).alloc (((Below.refl _ wr).drew).trans hb4).size _⟩
    · obtain rfl : k = l.length := by omega
      have HF := hI.out
      rw [List.take_length] at HF
      have HFH : Hid (QRow wr w.heap.size u5 (within (s0, s1) l) ∧ Below w.heap.size w wr) := Lib.hid ⟨RowAt.mono HF.1 HB1.out.size, HB1.out.trans (HF.2.mono HB1.out.size)⟩
      clear hk hlt HF hI
      go_wp2
      go_ret
      exact ⟨_, rfl, HFH.out.1, HFH.out.2⟩
end Go.Proofs.YtfbpmkecfmkffaaGreat
