/- Package span: what two lists have in common (common), what is outside of one (outside), how many blocks it has (total), and whether two lists are the same (slices.Equal). -/
import Derived.Test.YtehnobcjoaclcaaGreatGF
namespace Go.Proofs.YtehnobcjoaclcaaGreat
open Go Go.RowKit SpanP
set_option maxRecDepth 100000
set_option maxHeartbeats 1000000
set_option linter.unusedSimpArgs false

def lenV : Value → Nat
  | .slice _ n _ => n
  | _ => 0
theorem told_length (L : List S) (o : Option S) : (told L o).length ≤ L.length + 1 := by
  cases o <;> simp [told]
/-- What is behind a piece of code, said once ahead of it. -/
theorem with_key {P : Program} {c : Code} {Q : Exit → Act → World → Prop} {a : Act} {w : World} (C : World → Nat → Prop) (f : Nat → Act) (hk : ∀ w6 p6, C w6 p6 → Q .normal (f p6) w6) (h : (∀ w6 p6, C w6 p6 → Q .normal (f p6) w6) → c.wp P Q a w) : c.wp P Q a w := h hk
theorem common_any (u v : Value) (A B : List S) (w : World) (hu : Spans w u A) (hv : Spans w v B) (hA : Weak A) (hB : Weak B) (la : A.length ≤ 2000) (lb : B.length ≤ 2001) :
    Calls Tryz.prog 34 #[u, v] w fun e w' => ∃ r L, e = .returned r ∧ SRow w' w.heap.size r L ∧ SetOf L (fun b => In A b ∧ In B b) ∧ L.length ≤ A.length + B.length ∧ Below w.heap.size w w' := by
  have HU := Lib.hid hu
  have HV := Lib.hid hv
  have HW := Lib.hid (SpanP.Way.start hA hB)
  have HL := Lib.hid (And.intro la lb)
  clear hu hv hA hB la lb
  go_enter Tryz.func34, Tryz.ntmps34
  go_wp2
  go_loopw [0, 1, 5] (fun u v r wr => ∃ x y L, Spans w u x ∧ Spans w v y ∧ SRow wr w.heap.size r L ∧ SpanP.Way A B L x y ∧ L.length + x.length + y.length ≤ A.length + B.length ∧ Below w.heap.size w wr) (fun u v _ _ => lenV u + lenV v)
  case atStart => exact ⟨A, B, [], HU.out, HV.out, SRow.nil _ _, HW.out, by simp, Below.refl _ _⟩
  case round =>
    obtain ⟨x, y, L, hx, hy, hr, hway, hlen, hb⟩ := hrel
    have HR := Lib.hid hr
    have HB := Lib.hid hb
    have HY := Lib.hid hway
    have HN := Lib.hid hlen
    rcases x with _ | ⟨s, x⟩
    · obtain ⟨A0, c0, rfl, -, -, -⟩ := hx.read
      clear hx hy hr hway hlen hb
      go_wp2
      go_ret
      exact ⟨_, L, rfl, HR.out, HY.out.stop (.inl rfl), by have := HN.out; simp at this; omega, HB.out⟩
    · obtain ⟨b0, o0, c0, rfl, l0, m0, lt0, d00, d01, ht0⟩ := hx.cut
      have HX := Lib.hid hx
      rcases y with _ | ⟨t, y⟩
      · obtain ⟨A1, c1, rfl, -, -, -⟩ := hy.read
        have e0 : decide (((x.length + 1 : Nat) : Int) > 0) = true := decide_eq_true (by omega)
        clear hx hy hr hway hlen hb d00 d01 ht0
        go_wp2
        go_ret
        exact ⟨_, L, rfl, HR.out, HY.out.stop (.inr rfl), by have := HN.out; simp at this ⊢; omega, HB.out⟩
      · obtain ⟨b1, o1, c1, rfl, l1, m1, lt1, d10, d11, ht1⟩ := hy.cut
        have HYS := Lib.hid hy
        have HD := Lib.hid (And.intro d01 d11)
        have d00 := (hb.cell (p := ⟨b0, o0, none⟩) lt0).trans d00
        have d01 := (hb.cell (p := ⟨b0, o0 + 1, none⟩) lt0).trans d01
        have d10 := (hb.cell (p := ⟨b1, o1, none⟩) lt1).trans d10
        have d11 := (hb.cell (p := ⟨b1, o1 + 1, none⟩) lt1).trans d11
        have HT0 := Lib.hid ht0
        have HT1 := Lib.hid ht1
        have hx1 : (x.length : Int) + 1 > 0 := by omega
        have hy1 : (y.length : Int) + 1 > 0 := by omega
        have hrl : L.length ≤ 1000000 := by have := HL.out; have := HN.out; simp at *; omega
        have HRL := Lib.hid hrl
        obtain ⟨AR, cr, rfl, -, -, -, -⟩ := hr.form
        clear hx hy hr hway hlen hb ht0 ht1 hrl
        have hba : Below wr.heap.size wr (wr.alloc (.cells #[.int .i64 0, .int .i64 0] 43)).drew := ((Below.refl _ wr).alloc (Nat.le_refl _) _).drew
        have hlt0 : b0 < wr.heap.size := Nat.lt_of_lt_of_le lt0 HB.out.size
        have hlt1 : b1 < wr.heap.size := Nat.lt_of_lt_of_le lt1 HB.out.size
        have e00 := (hba.cell (p := ⟨b0, o0, none⟩) hlt0).trans d00
        have e01 := (hba.cell (p := ⟨b0, o0 + 1, none⟩) hlt0).trans d01
        have e10 := (hba.cell (p := ⟨b1, o1, none⟩) hlt1).trans d10
        have e11 := (hba.cell (p := ⟨b1, o1 + 1, none⟩) hlt1).trans d11
        have HLT := Lib.hid (And.intro hlt0 hlt1)
        clear hlt0 hlt1 hba
        rcases hmm : meet s t with _ | m
        · have hmt : ∀ W : World, Calls Tryz.prog 9 #[.agg #[.int .i64 s.1, .int .i64 s.2], .agg #[.int .i64 t.1, .int .i64 t.2]] W fun e w' => e = .returned (.tuple #[.agg #[.int .i64 0, .int .i64 0], .bool false]) ∧ Below W.heap.size W w' := fun W => by
            have := meet_any s t W
            rw [hmm] at this
            exact this
          go_wp2_with fail
          refine with_key (fun w6 p6 => Sits w6 p6 43 #[.int .i64 0, .int .i64 0] ∧ Below wr.heap.size wr w6) (fun p6 => { tmps := #[.slice (some ⟨b0, o0, none⟩) (x.length + 1) c0, .slice (some ⟨b1, o1, none⟩) (y.length + 1) c1, undef, undef, .slice none 0 0, .slice AR L.length cr, .pointer (some ⟨p6, 0, none⟩), .bool false, .slice (some ⟨b0, o0, none⟩) (x.length + 1) c0, .int .i64 (x.length + 1), .bool true, .bool true, .slice (some ⟨b1, o1, none⟩) (y.length + 1) c1, .int .i64 (y.length + 1), .bool true, .bool true, .tuple #[.agg #[.int .i64 0, .int .i64 0], .bool false], .slice (some ⟨b0, o0, none⟩) (x.length + 1) c0, .pointer (some ⟨b0, o0, none⟩), .agg #[.int .i64 s.1, .int .i64 s.2], .slice (some ⟨b1, o1, none⟩) (y.length + 1) c1, .pointer (some ⟨b1, o1, none⟩), .agg #[.int .i64 t.1, .int .i64 t.2], .tuple #[.agg #[.int .i64 0, .int .i64 0], .bool false], .agg #[.int .i64 0, .int .i64 0], .bool false, u26, u27, u28, u29, u30, u31, u32, u33, u34, u35, u36, u37, u38, u39, u40, u41, u42, u43, undef], defers := [] }) ?_ ?_
          · rintro w6 p6 ⟨s6, hB6⟩
            clear d00 d01 d10 d11 e00 e01 e10 e11 hmt
            have hX8 := HR.out.below hB6
            obtain ⟨w8, hw8⟩ : ∃ w8, w8 = w6 := ⟨_, rfl⟩
            have hb8 : Below w.heap.size w w8 := by rw [hw8]; exact HB.out.trans (hB6.mono HB.out.size)
            rw [← hw8] at hX8
            subst hw8
            have HX8 := Lib.hid hX8
            have HB8 := Lib.hid hb8
            have d01 := (hb8.cell (p := ⟨b0, o0 + 1, none⟩) lt0).trans HD.out.1
            have d11 := (hb8.cell (p := ⟨b1, o1 + 1, none⟩) lt1).trans HD.out.2
            clear hX8 hb8 s6 hB6
            by_cases hcmp : s.2 < t.2
            · have hwy := HY.out.left hcmp
              rw [hmm] at hwy
              have HWY := Lib.hid hwy
              have dc : decide (s.2 < t.2) = true := decide_eq_true hcmp
              clear hwy hcmp
              go_wp2_with fail
              go_quiet (fail)
              go_wp2_with fail
              refine ⟨⟨x, t :: y, L, HT0.out _ ?_, HYS.out, HX8.out, HWY.out, ?_, below_drewN HB8.out nq⟩, ?_⟩
              · by_cases e : c0 = 1
                · exact .inl (by omega)
                · exact .inr (if_neg e)
              · have := HN.out
                simp at this ⊢
                omega
              · simp [lenV]
            · have hwy := HY.out.right hcmp
              rw [hmm] at hwy
              have HWY := Lib.hid hwy
              have dc : decide (s.2 < t.2) = false := decide_eq_false hcmp
              clear hwy hcmp
              go_wp2_with fail
              go_quiet (fail)
              go_wp2_with fail
              refine ⟨⟨s :: x, y, L, HX.out, HT1.out _ ?_, HX8.out, HWY.out, ?_, below_drewN HB8.out nq⟩, ?_⟩
              · by_cases e : c1 = 1
                · exact .inl (by omega)
                · exact .inr (if_neg e)
              · have := HN.out
                simp at this ⊢
                omega
              · simp [lenV]
          intro key
          go_region_law (go_simp; go_at_call 9; refine (hmt _).mono ?_; rintro e w4 ⟨rfl, hb4⟩; first | (have z : Sits w4 wr.heap.size 43 #[.int .i64 0, .int .i64 0] := (Sits.fresh wr 43 #[.int .i64 0, .int .i64 0]).drew.below' hb4; have z0 := z.cell 0; have z1 := z.cell 1; have f0 := z.warm 0; have f1 := z.warm 1; simp at z0 z1) | skip)
          all_goals
            first
            | (have s6 : Sits ((w4.setCell ⟨wr.heap.size, 0, none⟩ (.int .i64 0)).setCell ⟨wr.heap.size, 1, none⟩ (.int .i64 0)) wr.heap.size 43 #[.int .i64 0, .int .i64 0] := by
                 have := (((Sits.fresh wr 43 #[.int .i64 0, .int .i64 0]).drew.below' hb4).put 0 (.int .i64 0)).put 1 (.int .i64 0)
                 simpa using this
               exact key _ _ ⟨s6, below_put (below_put ((((Below.refl _ wr).alloc (Nat.le_refl _) _).drew).trans (hb4.mono (by show wr.heap.size ≤ (wr.alloc _).heap.size; rw [World.size_alloc]; exact Nat.le_succ _))) (Nat.le_refl _) _ _) (Nat.le_refl _) _ _⟩)
            | exact key _ _ ⟨Sits.fresh w4 43 #[.int .i64 0, .int .i64 0], (((Below.refl _ wr).drew).trans hb4).alloc (((Below.refl _ wr).drew).trans hb4).size _⟩
        · have hmt : ∀ W : World, Calls Tryz.prog 9 #[.agg #[.int .i64 s.1, .int .i64 s.2], .agg #[.int .i64 t.1, .int .i64 t.2]] W fun e w' => e = .returned (.tuple #[.agg #[.int .i64 m.1, .int .i64 m.2], .bool true]) ∧ Below W.heap.size W w' := fun W => by
            have := meet_any s t W
            rw [hmm] at this
            exact this
          go_wp2_with fail
          refine with_key (fun w6 p6 => Sits w6 p6 43 #[.int .i64 m.1, .int .i64 m.2] ∧ Below wr.heap.size wr w6) (fun p6 => { tmps := #[.slice (some ⟨b0, o0, none⟩) (x.length + 1) c0, .slice (some ⟨b1, o1, none⟩) (y.length + 1) c1, undef, undef, .slice none 0 0, .slice AR L.length cr, .pointer (some ⟨p6, 0, none⟩), .bool true, .slice (some ⟨b0, o0, none⟩) (x.length + 1) c0, .int .i64 (x.length + 1), .bool true, .bool true, .slice (some ⟨b1, o1, none⟩) (y.length + 1) c1, .int .i64 (y.length + 1), .bool true, .bool true, .tuple #[.agg #[.int .i64 m.1, .int .i64 m.2], .bool true], .slice (some ⟨b0, o0, none⟩) (x.length + 1) c0, .pointer (some ⟨b0, o0, none⟩), .agg #[.int .i64 s.1, .int .i64 s.2], .slice (some ⟨b1, o1, none⟩) (y.length + 1) c1, .pointer (some ⟨b1, o1, none⟩), .agg #[.int .i64 t.1, .int .i64 t.2], .tuple #[.agg #[.int .i64 m.1, .int .i64 m.2], .bool true], .agg #[.int .i64 m.1, .int .i64 m.2], .bool true, u26, u27, u28, u29, u30, u31, u32, u33, u34, u35, u36, u37, u38, u39, u40, u41, u42, u43, undef], defers := [] }) ?_ ?_
          · rintro w6 p6 ⟨s6, hB6⟩
            clear d00 d01 d10 d11 e00 e01 e10 e11 hmt
            have hr6 := HR.out.below hB6
            obtain ⟨A8, c8, w8, hr8, hX8, hB8, _, _, _⟩ := pushS_one hr6 m (HB.out.trans (hB6.mono HB.out.size)).size HRL.out 22
            have hb8 : Below w.heap.size w w8 := (HB.out.trans (hB6.mono HB.out.size)).trans hB8
            have z0 := s6.cell 0
            have z1 := s6.cell 1
            simp at z0 z1
            have HX8 := Lib.hid hX8
            have HB8 := Lib.hid hb8
            have d01 := (hb8.cell (p := ⟨b0, o0 + 1, none⟩) lt0).trans HD.out.1
            have d11 := (hb8.cell (p := ⟨b1, o1 + 1, none⟩) lt1).trans HD.out.2
            clear hX8 hb8 s6 hB6 hB8 hr6
            by_cases hcmp : s.2 < t.2
            · have hwy := HY.out.left hcmp
              rw [hmm] at hwy
              have HWY := Lib.hid hwy
              have dc : decide (s.2 < t.2) = true := decide_eq_true hcmp
              clear hwy hcmp
              go_wp2_with (at_builtin; refine Lib.wpList_append_run _ rfl _ _ _ _ rfl _ _ rfl rfl _ _ hr8 ?_)
              go_quiet (fail)
              go_wp2_with fail
              refine ⟨⟨x, t :: y, L ++ [m], HT0.out _ ?_, HYS.out, HX8.out, HWY.out, ?_, below_drewN HB8.out nq⟩, ?_⟩
              · by_cases e : c0 = 1
                · exact .inl (by omega)
                · exact .inr (if_neg e)
              · have := HN.out
                simp at this ⊢
                omega
              · simp [lenV]
            · have hwy := HY.out.right hcmp
              rw [hmm] at hwy
              have HWY := Lib.hid hwy
              have dc : decide (s.2 < t.2) = false := decide_eq_false hcmp
              clear hwy hcmp
              go_wp2_with (at_builtin; refine Lib.wpList_append_run _ rfl _ _ _ _ rfl _ _ rfl rfl _ _ hr8 ?_)
              go_quiet (fail)
              go_wp2_with fail
              refine ⟨⟨s :: x, y, L ++ [m], HX.out, HT1.out _ ?_, HX8.out, HWY.out, ?_, below_drewN HB8.out nq⟩, ?_⟩
              · by_cases e : c1 = 1
                · exact .inl (by omega)
                · exact .inr (if_neg e)
              · have := HN.out
                simp at this ⊢
                omega
              · simp [lenV]
          intro key
          go_region_law (go_simp; go_at_call 9; refine (hmt _).mono ?_; rintro e w4 ⟨rfl, hb4⟩; first | (have z : Sits w4 wr.heap.size 43 #[.int .i64 0, .int .i64 0] := (Sits.fresh wr 43 #[.int .i64 0, .int .i64 0]).drew.below' hb4; have z0 := z.cell 0; have z1 := z.cell 1; have f0 := z.warm 0; have f1 := z.warm 1; simp at z0 z1) | skip)
          all_goals
            first
            | (have s6 : Sits ((w4.setCell ⟨wr.heap.size, 0, none⟩ (.int .i64 m.1)).setCell ⟨wr.heap.size, 1, none⟩ (.int .i64 m.2)) wr.heap.size 43 #[.int .i64 m.1, .int .i64 m.2] := by
                 have := (((Sits.fresh wr 43 #[.int .i64 0, .int .i64 0]).drew.below' hb4).put 0 (.int .i64 m.1)).put 1 (.int .i64 m.2)
                 simpa using this
               exact key _ _ ⟨s6, below_put (below_put ((((Below.refl _ wr).alloc (Nat.le_refl _) _).drew).trans (hb4.mono (by show wr.heap.size ≤ (wr.alloc _).heap.size; rw [World.size_alloc]; exact Nat.le_succ _))) (Nat.le_refl _) _ _) (Nat.le_refl _) _ _⟩)
            | exact key _ _ ⟨Sits.fresh w4 43 #[.int .i64 m.1, .int .i64 m.2], (((Below.refl _ wr).drew).trans hb4).alloc (((Below.refl _ wr).drew).trans hb4).size _⟩
end Go.Proofs.YtehnobcjoaclcaaGreat
