/- Package imap at int: New, Set, Clear, Get, Parts, All. -/
import Derived.Test.YtfbpmkecfmkffaaGreatImapEI
import Derived.Test.YtfbpmkecfmkffaaGreatGA
namespace Go.Proofs.YtfbpmkecfmkffaaGreat
open Go Go.RowKit SpanP PartP ImapP
set_option maxRecDepth 100000
set_option maxHeartbeats 1000000
set_option linter.unusedSimpArgs false

theorem newI_any (w : World) : Calls Tryz.prog 5 #[] w fun e w' => ∃ p, e = .returned (.pointer (some ⟨p, 0, none⟩)) ∧ w.heap.size ≤ p ∧ MapAtI w' p [] ∧ Below w.heap.size w w' := by
  have hm : MapAtI (w.alloc (.cells #[.slice none 0 0] 30)) w.heap.size [] := ⟨⟨_, Sits.fresh w _ _, MRowI.nil _ _⟩, ⟨by simp, List.Pairwise.nil⟩, fun x hx => by cases hx⟩
  go_enter Tryz.func5, Tryz.ntmps5
  go_wp2
  go_ret
  exact ⟨_, rfl, Nat.le_refl _, hm, (Below.refl _ w).alloc (Nat.le_refl _) _⟩
theorem valid_below (s : S) (W : World) : Calls Tryz.prog 25 #[aggS s] W fun e w' => e = .returned (.bool (decide (Ok s))) ∧ Below W.heap.size W w' :=
  (valid_any s W).mono fun _ _ ⟨h1, h2⟩ => ⟨h1, grown_below h2⟩
theorem setI_any (mb : Nat) (l : List (PtV Int)) (s : S) (v : Int) (w : World) (h : MapAtI w mb l) (ht : s.2 ≤ top) (hl : l.length ≤ 50000) :
    Calls Tryz.prog 7 #[.pointer (some ⟨mb, 0, none⟩), aggS s, (Value.int .i64 v)] w fun e w' => e = .returned (.bool (decide (Ok s))) ∧
      ∃ l', MapAtI w' mb l' ∧ MapOf l' (fun b u => (Has s b ∧ v = u) ∨ (Val l b u ∧ ¬ Has s b)) ∧ l'.length ≤ l.length + 2 ∧ Only mb w w' := by
  have hval := fun W : World => valid_below s W
  obtain ⟨p1, hp1⟩ : ∃ p, p = w.heap.size := ⟨_, rfl⟩
  obtain ⟨w1, hw1⟩ : ∃ w1, w1 = w.alloc (.cells #[.int .i64 s.1, .int .i64 s.2] 50) := ⟨_, rfl⟩
  have hb0 : Below w.heap.size w w1 := hw1 ▸ (Below.refl _ w).alloc (Nat.le_refl _) _
  have sp : Sits w1 p1 50 #[.int .i64 s.1, .int .i64 s.2] := hw1 ▸ hp1 ▸ Sits.fresh w _ _
  have c0 := sp.cell 0
  have c1 := sp.cell 1
  simp at c0 c1
  rw [hw1, hp1] at c0 c1
  by_cases hs : Ok s
  · have d : decide (Ok s) = true := decide_eq_true hs
    rw [d] at hval ⊢
    have hn : Near s l (nearII s l) (nearJI s l) := nearI_ok h.norm (by unfold Ok at hs; omega)
    have hlay := fun (W : World) (hW : Below w.heap.size w W) (hx : PtsI W (.slice (some ⟨p1, 0, none⟩) 1 1) [(s, v)]) => layI_any mb l s (.slice (some ⟨p1, 0, none⟩) 1 1) [(s, v)] W (h.below hW) hs hx
    have hlay := fun (W : World) (g : Nat) (hW : Below w.heap.size w W) (hx : Sits W g 73 #[.int .i64 s.1, .int .i64 s.2, (Value.int .i64 v)]) => layI_any mb l s (.slice (some ⟨g, 0, none⟩) 1 1) [(s, v)] W (h.below hW) hs (oneMI hx)
      ⟨fun y hy => by rw [List.mem_singleton.1 hy]; exact hs, List.pairwise_singleton _ _⟩ (fun y hy => by rw [List.mem_singleton.1 hy]; exact ⟨Int.le_refl _, Int.le_refl _⟩) ht hl (by simp)
      (laid_two hs ht (PNorm.sub h.norm (mid_sublist l _ _)).row (.inr (by simp)))
    have HLAY := Lib.hid hlay
    have HSP := Lib.hid sp
    have HB0 := Lib.hid hb0
    obtain ⟨a, b⟩ := s
    unfold aggS at hval HLAY ⊢
    simp only at hval HLAY c0 c1 ⊢
    clear hs d hn hlay sp hb0 h ht hl
    go_enter Tryz.func7, Tryz.ntmps7
    go_wp2_with fail
    rw [← hw1]
    refine (hval _).mono ?_
    rintro e w2 ⟨rfl, hB2⟩
    have HB2 := Lib.hid (HB0.out.trans (hB2.mono HB0.out.size))
    clear c0 c1
    have c0 := (HSP.out.below' hB2).cell 0
    have c1 := (HSP.out.below' hB2).cell 1
    simp at c0 c1
    rw [hp1] at c0 c1
    clear hB2 hval hw1
    go_wp2_with fail
    refine (HLAY.out _ _ (HB2.out.alloc HB2.out.size _) (Sits.fresh w2 _ _)).mono ?_
    rintro e w4 ⟨rfl, l', hM, hmap, hlen, hO⟩
    have HQ := Lib.hid (And.intro hM (And.intro hmap (And.intro hlen ((Only.of_below mb (HB2.out.alloc HB2.out.size _)).trans hO))))
    clear hM hmap hlen hO c0 c1
    go_wp2
    go_ret
    exact ⟨rfl, l', HQ.out.1, HQ.out.2.1.iff fun c u => by rw [val_one], HQ.out.2.2.1, HQ.out.2.2.2⟩
  · have d : decide (Ok s) = false := decide_eq_false hs
    rw [d] at hval ⊢
    have hfin : ∀ W, Below w.heap.size w W → ∃ l', MapAtI W mb l' ∧ MapOf l' (fun b u => (Has s b ∧ v = u) ∨ (Val l b u ∧ ¬ Has s b)) ∧ l'.length ≤ l.length + 2 ∧ Only mb w W := fun W hW =>
      ⟨l, h.below hW, ⟨h.norm, fun b u => ⟨fun e => .inr ⟨e, fun k => hs k.1⟩, fun e => by rcases e with e | e; exact absurd e.1.1 hs; exact e.1⟩⟩, by omega, Only.of_below mb hW⟩
    have HF := Lib.hid hfin
    have HB0 := Lib.hid hb0
    obtain ⟨a, b⟩ := s
    unfold aggS at hval ⊢
    simp only at hval c0 c1 ⊢
    clear hs d hfin sp hb0 h ht hl
    go_enter Tryz.func7, Tryz.ntmps7
    go_wp2_with fail
    rw [← hw1]
    refine (hval _).mono ?_
    rintro e w2 ⟨rfl, hB2⟩
    have HB2 := Lib.hid (HB0.out.trans (hB2.mono HB0.out.size))
    clear c0 c1 hB2 hval hw1
    go_wp2
    go_ret
    exact ⟨rfl, HF.out _ HB2.out⟩
theorem clearI_any (mb : Nat) (l : List (PtV Int)) (s : S) (w : World) (h : MapAtI w mb l) (ht : s.2 ≤ top) (hl : l.length ≤ 50000) :
    Calls Tryz.prog 9 #[.pointer (some ⟨mb, 0, none⟩), aggS s] w fun e w' => e = .returned (.bool (decide (Ok s))) ∧
      ∃ l', MapAtI w' mb l' ∧ MapOf l' (fun b u => Val l b u ∧ ¬ Has s b) ∧ l'.length ≤ l.length + 2 ∧ Only mb w w' := by
  have hval := fun W : World => valid_below s W
  obtain ⟨p1, hp1⟩ : ∃ p, p = w.heap.size := ⟨_, rfl⟩
  obtain ⟨w1, hw1⟩ : ∃ w1, w1 = w.alloc (.cells #[.int .i64 s.1, .int .i64 s.2] 50) := ⟨_, rfl⟩
  have hb0 : Below w.heap.size w w1 := hw1 ▸ (Below.refl _ w).alloc (Nat.le_refl _) _
  have sp : Sits w1 p1 50 #[.int .i64 s.1, .int .i64 s.2] := hw1 ▸ hp1 ▸ Sits.fresh w _ _
  have c0 := sp.cell 0
  have c1 := sp.cell 1
  simp at c0 c1
  rw [hw1, hp1] at c0 c1
  by_cases hs : Ok s
  · have d : decide (Ok s) = true := decide_eq_true hs
    rw [d] at hval ⊢
    have hn : Near s l (nearII s l) (nearJI s l) := nearI_ok h.norm (by unfold Ok at hs; omega)
    have hlay := fun (W : World) (hW : Below w.heap.size w W) => layI_any mb l s (.slice none 0 0) [] W (h.below hW) hs (SliceAt.nil 3 encMI W)
      ⟨by simp, List.Pairwise.nil⟩ (fun y hy => by cases hy) ht hl (by simp)
      (laid_two hs ht (PNorm.sub h.norm (mid_sublist l _ _)).row (.inr (by simp)))
    have HLAY := Lib.hid hlay
    have HSP := Lib.hid sp
    have HB0 := Lib.hid hb0
    obtain ⟨a, b⟩ := s
    unfold aggS at hval HLAY ⊢
    simp only at hval HLAY c0 c1 ⊢
    clear hs d hn hlay sp hb0 h ht hl
    go_enter Tryz.func9, Tryz.ntmps9
    go_wp2_with fail
    rw [← hw1]
    refine (hval _).mono ?_
    rintro e w2 ⟨rfl, hB2⟩
    have HB2 := Lib.hid (HB0.out.trans (hB2.mono HB0.out.size))
    clear c0 c1
    have c0 := (HSP.out.below' hB2).cell 0
    have c1 := (HSP.out.below' hB2).cell 1
    simp at c0 c1
    rw [hp1] at c0 c1
    clear hB2 hval hw1
    go_wp2_with fail
    refine (HLAY.out _ HB2.out).mono ?_
    rintro e w4 ⟨rfl, l', hM, hmap, hlen, hO⟩
    have HQ := Lib.hid (And.intro hM (And.intro hmap (And.intro hlen ((Only.of_below mb HB2.out).trans hO))))
    clear hM hmap hlen hO c0 c1
    go_wp2
    go_ret
    exact ⟨rfl, l', HQ.out.1, HQ.out.2.1.iff fun c u => by simp [val_nil], HQ.out.2.2.1, HQ.out.2.2.2⟩
  · have d : decide (Ok s) = false := decide_eq_false hs
    rw [d] at hval ⊢
    have hfin : ∀ W, Below w.heap.size w W → ∃ l', MapAtI W mb l' ∧ MapOf l' (fun b u => Val l b u ∧ ¬ Has s b) ∧ l'.length ≤ l.length + 2 ∧ Only mb w W := fun W hW =>
      ⟨l, h.below hW, ⟨h.norm, fun b u => ⟨fun e => ⟨e, fun k => hs k.1⟩, fun e => e.1⟩⟩, by omega, Only.of_below mb hW⟩
    have HF := Lib.hid hfin
    have HB0 := Lib.hid hb0
    obtain ⟨a, b⟩ := s
    unfold aggS at hval ⊢
    simp only at hval c0 c1 ⊢
    clear hs d hfin sp hb0 h ht hl
    go_enter Tryz.func9, Tryz.ntmps9
    go_wp2_with fail
    rw [← hw1]
    refine (hval _).mono ?_
    rintro e w2 ⟨rfl, hB2⟩
    have HB2 := Lib.hid (HB0.out.trans (hB2.mono HB0.out.size))
    clear c0 c1 hB2 hval hw1
    go_wp2
    go_ret
    exact ⟨rfl, HF.out _ HB2.out⟩
theorem allI_any (mb : Nat) (l : List (PtV Int)) (w : World) (h : MapAtI w mb l) (hl : l.length ≤ 1000000) :
    Calls Tryz.prog 13 #[.pointer (some ⟨mb, 0, none⟩)] w fun e w' => ∃ x, e = .returned x ∧ MRowI w' w.heap.size x l ∧ Below w.heap.size w w' := by
  obtain ⟨v, hv, hr⟩ := h.row
  have hc := cloneMI_any v l w hr.parts hl
  have c0 := hv.cell 0
  simp at c0
  have HC := Lib.hid hc
  obtain ⟨A, cap, rfl, -, -, -, -⟩ := hr.form
  clear h hr hl hv hc
  go_enter Tryz.func13, Tryz.ntmps13
  go_wp2_with fail
  refine HC.out.mono ?_
  rintro e w2 ⟨x, rfl, hX, hB⟩
  obtain ⟨A2, cap2, ex, -⟩ := hX.parts.read
  subst ex
  have HQ := Lib.hid (And.intro hX hB)
  clear hX hB c0
  go_wp2
  go_ret
  exact ⟨_, rfl, HQ.out.1, HQ.out.2⟩
theorem getI_any (mb : Nat) (l : List (PtV Int)) (c : Int) (w : World) (h : MapAtI w mb l) (hl : l.length ≤ 1000000) :
    Calls Tryz.prog 18 #[.pointer (some ⟨mb, 0, none⟩), .int .i64 c] w fun e w' => e = .returned (.tuple #[(Value.int .i64 (((blockV l c).getD 0))), .bool (blockV l c).isSome]) ∧ Below w.heap.size w w' := by
  have hnear : Near (c, c) l (nearII (c, c) l) (nearJI (c, c) l) := nearI_ok h.norm (Int.le_refl _)
  obtain ⟨v, hv, hr⟩ := h.row
  obtain ⟨A, cap, rfl, hc1, hc2, -, -⟩ := hr.form
  have hn := nearI_any mb (.slice A l.length cap) l (c, c) w hv hr.parts hl h.norm.row
  obtain ⟨i, hi⟩ : ∃ i, i = nearII (c, c) l := ⟨_, rfl⟩
  obtain ⟨j, hj⟩ : ∃ j, j = nearJI (c, c) l := ⟨_, rfl⟩
  rw [← hi, ← hj] at hnear hn
  clear hi hj
  have hij := hnear.le
  have hjl := hnear.len
  rw [← blockV_mid hnear (Int.le_refl _) (Int.le_refl _)]
  have hold : ∀ W, Below w.heap.size w W → PtsI W (sliced A i j cap 3) (mid l i j) := fun W hW => PtsI.sliced (hr.parts.below hW) i j hnear.le hnear.len
  obtain ⟨vo, hvo⟩ : ∃ vo, vo = sliced A i j cap 3 := ⟨_, rfl⟩
  rw [← hvo] at hold
  have o1 : ∀ W : World, (Instr.slice 28 (.slice A l.length cap) (some (.int .i64 i)) (some (.int .i64 j)) none).run Tryz.prog W = .ok vo W := fun W => by
    rw [hvo, run_slice_lh W 28 A l.length cap Tryz.underlying28 .i64 .i64 i j (by omega) (by omega) (by omega)]; rfl
  have q1 : ∀ (W : World) (lo hi mx : Option Value), (Instr.sliceAt 28 (.slice A l.length cap) lo hi mx).run Tryz.prog W = (Instr.slice 28 (.slice A l.length cap) lo hi mx).run Tryz.prog W := fun W lo hi mx => run_sliceAt_slice W 28 _ lo hi mx Tryz.underlying28
  have hMl : (mid l i j).length ≤ 1000000 := by rw [mid_len hjl]; omega
  generalize mid l i j = M at hold hMl ⊢
  obtain ⟨r, hr0⟩ : ∃ r, r = blockV M c := ⟨_, rfl⟩
  rw [← hr0]
  have HR0 := Lib.hid hr0
  obtain ⟨A', cap', evo, hM1, hM2, hM3⟩ := (hold w (Below.refl _ _)).read
  subst evo
  have HO := Lib.hid hold
  have HV := Lib.hid hv
  have hlen : (M.length : Int) ≤ 1000000 := by omega
  unfold aggS at hn
  simp only at hn
  clear h hnear hv hr hc1 hl hold hvo hij hjl hMl hM1 hM2 hM3 hr0
  go_enter Tryz.func18, Tryz.ntmps18
  go_wp2_with fail
  refine hn.mono ?_
  rintro e w2 ⟨rfl, hB2⟩
  have HB2 := Lib.hid hB2
  have k0 := (HV.out.below' hB2).cell 0
  simp at k0
  clear hn hB2
  go_wp2_with fail
  go_loopw [30] (fun i wr => ∃ k : Nat, k ≤ M.length ∧ i = .int .i64 k ∧ Hid (Below w.heap.size w wr ∧ ∀ x ∈ M.take k, ¬ Has x.1 c)) (fun i _ => M.length - (intOf i).toNat)
  case atStart => exact ⟨0, by omega, rfl, Lib.hid ⟨HB2.out, by simp⟩⟩
  case round =>
    obtain ⟨k, hk, rfl, hI⟩ := hrel
    by_cases hlt : k < M.length
    · obtain ⟨A3, cap3, e3, -, -, h3⟩ := (HO.out wr hI.out.1).read
      simp only [Value.slice.injEq, true_and] at e3
      obtain ⟨rfl, rfl⟩ := e3
      obtain ⟨b1, o1', rfl, hbs, c0, c1, c2⟩ := h3 k hlt
      obtain ⟨y, hy⟩ : ∃ y, y = M[k] := ⟨_, rfl⟩
      rw [← hy] at c0 c1 c2
      obtain ⟨⟨y0, y1⟩, yv⟩ := y
      simp only at c0 c1 c2
      have hhas : ∀ W, Calls Tryz.prog 35 #[.agg #[.int .i64 y0, .int .i64 y1], .int .i64 c] W fun e w' => e = .returned (.bool (decide (Has (y0, y1) c))) ∧ Below W.heap.size W w' := fun W => (has_any (y0, y1) c W).mono fun _ _ ⟨h1, h2⟩ => ⟨h1, grown_below h2⟩
      obtain ⟨w3, hw3⟩ : ∃ w3, w3 = wr.alloc (.cells #[.int .i64 y0, .int .i64 y1, (Value.int .i64 yv)] 73) := ⟨_, rfl⟩
      have hb3 : Below wr.heap.size wr w3 := hw3 ▸ (Below.refl _ wr).alloc (Nat.le_refl _) _
      have sq : Sits w3 wr.heap.size 73 #[.int .i64 y0, .int .i64 y1, (Value.int .i64 yv)] := hw3 ▸ Sits.fresh wr _ _
      have SQ := Lib.hid sq
      have HB3 := Lib.hid (hI.out.1.trans (hb3.mono hI.out.1.size))
      have HY : Hid (∀ h : k < M.length, ((y0, y1), yv) = M[k]) := Lib.hid fun _ => hy
      have HLT := Lib.hid hlt
      clear h3 hbs hy hb3 sq
      by_cases hh : Has (y0, y1) c
      · rw [show decide (Has (y0, y1) c) = true from decide_eq_true hh] at hhas
        have HRS : Hid (r = some yv) := Lib.hid (by
          rw [HR0.out, blockV_at HLT.out hI.out.2 (by rw [← HY.out HLT.out]; exact hh), ← HY.out HLT.out])
        clear hh
        go_wp2_with fail
        rw [← hw3]
        refine (hhas _).mono ?_
        rintro e w4 ⟨rfl, hB4⟩
        have z2 := (SQ.out.below' hB4).cell 2
        simp at z2
        have HB4 := Lib.hid (HB3.out.trans (hB4.mono HB3.out.size))
        clear hB4 hhas hw3 c0 c1 c2
        go_wp2
        go_ret2
        exact ⟨by rw [HRS.out]; rfl, HB4.out⟩
      · rw [show decide (Has (y0, y1) c) = false from decide_eq_false hh] at hhas
        have HH : Hid (∀ x ∈ M.take (k + 1), ¬ Has x.1 c) := Lib.hid fun x hx => by
          rw [List.take_succ_eq_append_getElem HLT.out] at hx
          rcases List.mem_append.1 hx with hx | hx
          · exact hI.out.2 x hx
          · rw [List.mem_singleton.1 hx, ← HY.out HLT.out]; exact hh
        clear hh
        go_wp2_with fail
        rw [← hw3]
        refine (hhas _).mono ?_
        rintro e w4 ⟨rfl, hB4⟩
        have HB4 := Lib.hid (HB3.out.trans (hB4.mono HB3.out.size))
        clear hB4 hhas hw3 c0 c1 c2
        go_wp2
        go_roundw
        case measure => simp [intOf]; omega
        case rel => exact ⟨k + 1, by omega, by go_num, Lib.hid ⟨HB4.out, HH.out⟩⟩
    · obtain rfl : k = M.length := by omega
      have HRS : Hid (r = none) := Lib.hid (by
        rw [HR0.out]
        have := hI.out.2
        rw [List.take_length] at this
        exact blockV_off this)
      clear hk hlt
      go_wp2
      go_ret2
      exact ⟨by rw [HRS.out]; rfl, hI.out.1⟩
theorem partsI_any (mb : Nat) (l : List (PtV Int)) (s : S) (w : World) (h : MapAtI w mb l) (hl : l.length ≤ 1000000) :
    Calls Tryz.prog 14 #[.pointer (some ⟨mb, 0, none⟩), aggS s] w fun e w' => ∃ x, e = .returned x ∧ MRowI w' w.heap.size x (partsV s l (nearII s l) (nearJI s l)) ∧ Below w.heap.size w w' := by
  have hval := fun W : World => valid_below s W
  obtain ⟨p1, hp1⟩ : ∃ p, p = w.heap.size := ⟨_, rfl⟩
  obtain ⟨w1, hw1⟩ : ∃ w1, w1 = w.alloc (.cells #[.int .i64 s.1, .int .i64 s.2] 50) := ⟨_, rfl⟩
  have hb0 : Below w.heap.size w w1 := hw1 ▸ (Below.refl _ w).alloc (Nat.le_refl _) _
  have sp : Sits w1 p1 50 #[.int .i64 s.1, .int .i64 s.2] := hw1 ▸ hp1 ▸ Sits.fresh w _ _
  have c0 := sp.cell 0
  have c1 := sp.cell 1
  simp at c0 c1
  rw [hw1, hp1] at c0 c1
  by_cases hs : Ok s
  · have d : decide (Ok s) = true := decide_eq_true hs
    rw [d] at hval
    have hnear : Near s l (nearII s l) (nearJI s l) := nearI_ok h.norm (by unfold Ok at hs; omega)
    obtain ⟨v, hv, hr⟩ := h.row
    obtain ⟨A, cap, rfl, hc1, hc2, -, -⟩ := hr.form
    have hn := fun (W : World) (hW : Below w.heap.size w W) => nearI_any mb (.slice A l.length cap) l s W (hv.below' hW) (hr.parts.below hW) hl h.norm.row
    obtain ⟨i, hi⟩ : ∃ i, i = nearII s l := ⟨_, rfl⟩
    obtain ⟨j, hj⟩ : ∃ j, j = nearJI s l := ⟨_, rfl⟩
    rw [← hi, ← hj] at hnear ⊢
    simp only [← hi, ← hj] at hn
    clear hi hj
    have hij := hnear.le
    have hjl := hnear.len
    have hold : ∀ W, Below w.heap.size w W → PtsI W (sliced A i j cap 3) (mid l i j) := fun W hW => PtsI.sliced (hr.parts.below hW) i j hnear.le hnear.len
    obtain ⟨vo, hvo⟩ : ∃ vo, vo = sliced A i j cap 3 := ⟨_, rfl⟩
    rw [← hvo] at hold
    have o1 : ∀ W : World, (Instr.slice 28 (.slice A l.length cap) (some (.int .i64 i)) (some (.int .i64 j)) none).run Tryz.prog W = .ok vo W := fun W => by
      rw [hvo, run_slice_lh W 28 A l.length cap Tryz.underlying28 .i64 .i64 i j (by omega) (by omega) (by omega)]; rfl
    have q1 : ∀ (W : World) (lo hi mx : Option Value), (Instr.sliceAt 28 (.slice A l.length cap) lo hi mx).run Tryz.prog W = (Instr.slice 28 (.slice A l.length cap) lo hi mx).run Tryz.prog W := fun W lo hi mx => run_sliceAt_slice W 28 _ lo hi mx Tryz.underlying28
    have hMl : (mid l i j).length ≤ 1000000 := by rw [mid_len hjl]; omega
    have eP : partsV s l i j = cutV s (mid l i j) := by unfold partsV; rw [if_pos hs]
    rw [eP]
    generalize mid l i j = M at hold hMl ⊢
    have HO := Lib.hid hold
    have HV := Lib.hid hv
    have HSP := Lib.hid sp
    have HB0 := Lib.hid hb0
    have HN := Lib.hid hn
    have HML := Lib.hid hMl
    obtain ⟨a, b⟩ := s
    unfold aggS at hval HN ⊢
    simp only at hval HN c0 c1 ⊢
    clear hs d h hnear hv hr hc1 hl hold hvo hij hjl hMl hn eP sp hb0
    go_enter Tryz.func14, Tryz.ntmps14
    go_wp2_with fail
    rw [← hw1]
    refine (hval _).mono ?_
    rintro e w2 ⟨rfl, hB2⟩
    have HB2 := Lib.hid (HB0.out.trans (hB2.mono HB0.out.size))
    have HS2 := Lib.hid (HSP.out.below' hB2)
    clear c0 c1
    have c0 := HS2.out.cell 0
    have c1 := HS2.out.cell 1
    simp at c0 c1
    rw [hp1] at c0 c1
    clear hB2 hval hw1
    go_wp2_with fail
    refine (HN.out _ HB2.out).mono ?_
    rintro e w3 ⟨rfl, hB3⟩
    have HB3 := Lib.hid (HB2.out.trans (hB3.mono HB2.out.size))
    have HS3 := Lib.hid (HS2.out.below' hB3)
    clear c0 c1 hB3 HN
    go_wp2_with fail
    rw [← hp1]
    clear hp1
    have HL3 := Lib.hid HS3.out.lt
    refine wp_region_ex (by kernel_rfl) (fun W => Below w3.heap.size w3 W) (fun W W' => Below W.heap.size W W')
      [[(0, none)], [(20, some 0)], [(21, some 1)], [(22, some 2)], [(5, none)], [(6, none)], [(23, some 3), (24, some 4), (25, some 5)], [(3, none)], [(26, some 6), (27, some 7)], [(28, some 8)]]
      [none, none, none, none, some 9, none, none, none, none, none, none, none, none, none, none, none, none, none, none, none, some 0, some 1, some 2, some 3, some 4, some 5, some 6, some 7, some 8] (by kernel_rfl) (by kernel_rfl) ((Below.refl _ _).drew) ?_
    iterate 8
      refine ex_pure (c := ?_) (fun _ _ => Below.refl _ _) ?_ ?_
      rotate_left
      · intro a' W hR hF
        simp only [FactsOf, List.nil_append, List.cons_append, List.getD_cons_zero, List.getD_cons_succ, exists_eq_left, and_true, List.getElem?_toArray, List.getElem?_cons_zero, List.getElem?_cons_succ] at hF
        have k0 := (HS3.out.below' hR).cell 0
        have k1 := (HS3.out.below' hR).cell 1
        have k2 := ((HV.out.below' HB3.out).below' hR).cell 0
        simp at k0 k1 k2
        refine ⟨?_, ?_⟩
        · simp [Region.wanted, yielded, hF]
        · go_simp
          with_reducible rfl
    refine ex_callv (fun v W => MRowI W w3.heap.size v (cutV (a, b) M)) (fun v W W' _ hB hv => hv.below hB) (fun a' W hR hF => ?_) ?_
    ·
      simp only [FactsOf, List.nil_append, List.cons_append, List.getD_cons_zero, List.getD_cons_succ, exists_eq_left, and_true, List.getElem?_toArray, List.getElem?_cons_zero, List.getElem?_cons_succ] at hF
      exact ⟨by simp [Region.wanted, yielded, hF], 32, #[vo, .agg #[.int .i64 a, .int .i64 b]], by go_simp, (cutI_any vo M (a, b) W (HO.out W (HB3.out.trans (hR.mono HB3.out.size))) HML.out).mono fun e w' ⟨x, he, hX, hB⟩ => ⟨x, he, hR.trans (hB.mono hR.size), hB, hX.less hR.size⟩⟩
    refine ex_val (fun v W => MRowI W w3.heap.size v (cutV (a, b) M)) (fun v W W' _ hB hv => hv.below hB) (fun a' W hR hF => ?_) ?_
    ·
      simp only [FactsOf, List.nil_append, List.cons_append, List.getD_cons_zero, List.getD_cons_succ, exists_eq_left, and_true, List.getElem?_toArray, List.getElem?_cons_zero, List.getElem?_cons_succ] at hF
      obtain ⟨v, hp, hv⟩ := hF
      exact ⟨by simp [Region.wanted, yielded, hv], v, W, by go_simp, hR, Below.refl _ _, hp⟩
    show ∀ W, _ → _
    intro w4 hR2
    simp only [FinOf, List.nil_append, List.cons_append, List.getD_cons_zero, List.getD_cons_succ, forall_eq, forall_exists_index, and_imp, Nat.reduceAdd, Array.getD_eq_getD_getElem?, List.getElem?_toArray, List.getElem?_cons_zero, List.getElem?_cons_succ, Option.getD_some]
    intro v4 hv4 v28 _
    have HQ := Lib.hid (And.intro (hv4.less HB3.out.size) (HB3.out.trans (hR2.mono HB3.out.size)))
    clear hv4 hR2
    go_wp2
    go_ret
    exact ⟨_, rfl, HQ.out.1, HQ.out.2⟩
  · have d : decide (Ok s) = false := decide_eq_false hs
    rw [d] at hval
    have eP : partsV s l (nearII s l) (nearJI s l) = [] := by unfold partsV; rw [if_neg hs]
    rw [eP]
    have HB0 := Lib.hid hb0
    obtain ⟨a, b⟩ := s
    unfold aggS at hval ⊢
    simp only at hval c0 c1 ⊢
    clear hs d eP sp hb0 h hl
    go_enter Tryz.func14, Tryz.ntmps14
    go_wp2_with fail
    rw [← hw1]
    refine (hval _).mono ?_
    rintro e w2 ⟨rfl, hB2⟩
    have HB2 := Lib.hid (HB0.out.trans (hB2.mono HB0.out.size))
    clear c0 c1 hB2 hval hw1
    go_wp2
    go_ret
    exact ⟨_, rfl, MRowI.nil _ _, HB2.out⟩
end Go.Proofs.YtfbpmkecfmkffaaGreat
