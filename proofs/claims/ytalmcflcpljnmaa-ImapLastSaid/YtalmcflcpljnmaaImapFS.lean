/- Package imap at string: New, Set, Clear, Get, Parts, All. -/
import Derived.Test.YtalmcflcpljnmaaImapFI
import Derived.Test.YtalmcflcpljnmaaImapES
import Derived.Test.YtalmcflcpljnmaaImapQ
namespace Go.Proofs.Ytalmcflcpljnmaa
open Go Go.RowKit SpanP PartP ImapP
set_option maxRecDepth 100000
set_option maxHeartbeats 1000000
set_option linter.unusedSimpArgs false

theorem newS_any (w : World) : Calls Try.prog 17 #[] w fun e w' => ∃ p, e = .returned (.pointer (some ⟨p, 0, none⟩)) ∧ w.heap.size ≤ p ∧ MapAtS w' p [] ∧ Below w.heap.size w w' := by
  have hm : MapAtS (w.alloc (.cells #[.slice none 0 0] 68)) w.heap.size [] := ⟨⟨_, Sits.fresh w _ _, MRowS.nil _ _⟩, ⟨by simp, List.Pairwise.nil⟩, fun x hx => by cases hx⟩
  go_enter Try.func17, Try.ntmps17
  go_wp2
  go_ret
  exact ⟨_, rfl, Nat.le_refl _, hm, (Below.refl _ w).alloc (Nat.le_refl _) _⟩
theorem setS_any (mb : Nat) (l : List (PtV (List UInt8))) (s : S) (v : (List UInt8)) (w : World) (h : MapAtS w mb l) (ht : s.2 ≤ top) (hl : l.length ≤ 50000) :
    Calls Try.prog 20 #[.pointer (some ⟨mb, 0, none⟩), aggS s, (Value.string (str v))] w fun e w' => e = .returned (.bool (decide (Ok s))) ∧
      ∃ l', MapAtS w' mb l' ∧ MapOf l' (fun b u => (Has s b ∧ v = u) ∨ (Val l b u ∧ ¬ Has s b)) ∧ l'.length ≤ l.length + 2 ∧ Only mb w w' := by
  have hval := fun W : World => valid_below s W
  obtain ⟨p1, hp1⟩ : ∃ p, p = w.heap.size := ⟨_, rfl⟩
  obtain ⟨w1, hw1⟩ : ∃ w1, w1 = w.alloc (.cells #[.int .i64 s.1, .int .i64 s.2] 23) := ⟨_, rfl⟩
  have hb0 : Below w.heap.size w w1 := hw1 ▸ (Below.refl _ w).alloc (Nat.le_refl _) _
  have sp : Sits w1 p1 23 #[.int .i64 s.1, .int .i64 s.2] := hw1 ▸ hp1 ▸ Sits.fresh w _ _
  have c0 := sp.cell 0
  have c1 := sp.cell 1
  simp at c0 c1
  rw [hw1, hp1] at c0 c1
  by_cases hs : Ok s
  · have d : decide (Ok s) = true := decide_eq_true hs
    rw [d] at hval ⊢
    have hn : Near s l (nearIS s l) (nearJS s l) := nearS_ok h.norm (by unfold Ok at hs; omega)
    have hlay := fun (W : World) (hW : Below w.heap.size w W) (hx : PtsS W (.slice (some ⟨p1, 0, none⟩) 1 1) [(s, v)]) => layS_any mb l s (.slice (some ⟨p1, 0, none⟩) 1 1) [(s, v)] W (h.below hW) hs hx
    have hlay := fun (W : World) (g : Nat) (hW : Below w.heap.size w W) (hx : Sits W g 49 #[.int .i64 s.1, .int .i64 s.2, (Value.string (str v))]) => layS_any mb l s (.slice (some ⟨g, 0, none⟩) 1 1) [(s, v)] W (h.below hW) hs (oneMS hx)
      ⟨fun y hy => by rw [List.mem_singleton.1 hy]; exact hs, List.pairwise_singleton _ _⟩ (fun y hy => by rw [List.mem_singleton.1 hy]; exact ⟨Int.le_refl _, Int.le_refl _⟩) ht hl (by simp)
      (laid_two hs ht (PNorm.sub h.norm (mid_sublist l _ _)).row (.inr (by simp)))
    have HLAY := Lib.hid hlay
    have HSP := Lib.hid sp
    have HB0 := Lib.hid hb0
    obtain ⟨a, b⟩ := s
    unfold aggS at hval HLAY ⊢
    simp only at hval HLAY c0 c1 ⊢
    clear hs d hn hlay sp hb0 h ht hl
    go_enter Try.func20, Try.ntmps20
    go_wp2_with fail
    rw [← hw1]
    refine (hval _).mono ?_
    rintro e w2 ⟨rfl, hB2⟩
    have HB2 := Lib.hid (HB0.out.trans (hB2.mono HB0.out.size))
    clear c0 c1
    have c0 := (HSP.out.below' hB2).cell 0
    have c1 := (HSP.out.below' hB2).cell 1
    simp at c0 c1
    rw [hp1] at c0 c1
    clear hB2 hval hw1
    go_wp2_with fail
    refine (HLAY.out _ _ (HB2.out.alloc HB2.out.size _) (Sits.fresh w2 _ _)).mono ?_
    rintro e w4 ⟨rfl, l', hM, hmap, hlen, hO⟩
    have HQ := Lib.hid (And.intro hM (And.intro hmap (And.intro hlen ((Only.of_below mb (HB2.out.alloc HB2.out.size _)).trans hO))))
    clear hM hmap hlen hO c0 c1
    go_wp2
    go_ret
    exact ⟨rfl, l', HQ.out.1, HQ.out.2.1.iff fun c u => by rw [val_one], HQ.out.2.2.1, HQ.out.2.2.2⟩
  · have d : decide (Ok s) = false := decide_eq_false hs
    rw [d] at hval ⊢
    have hfin : ∀ W, Below w.heap.size w W → ∃ l', MapAtS W mb l' ∧ MapOf l' (fun b u => (Has s b ∧ v = u) ∨ (Val l b u ∧ ¬ Has s b)) ∧ l'.length ≤ l.length + 2 ∧ Only mb w W := fun W hW =>
      ⟨l, h.below hW, ⟨h.norm, fun b u => ⟨fun e => .inr ⟨e, fun k => hs k.1⟩, fun e => by rcases e with e | e; exact absurd e.1.1 hs; exact e.1⟩⟩, by omega, Only.of_below mb hW⟩
    have HF := Lib.hid hfin
    have HB0 := Lib.hid hb0
    obtain ⟨a, b⟩ := s
    unfold aggS at hval ⊢
    simp only at hval c0 c1 ⊢
    clear hs d hfin sp hb0 h ht hl
    go_enter Try.func20, Try.ntmps20
    go_wp2_with fail
    rw [← hw1]
    refine (hval _).mono ?_
    rintro e w2 ⟨rfl, hB2⟩
    have HB2 := Lib.hid (HB0.out.trans (hB2.mono HB0.out.size))
    clear c0 c1 hB2 hval hw1
    go_wp2
    go_ret
    exact ⟨rfl, HF.out _ HB2.out⟩
theorem clearS_any (mb : Nat) (l : List (PtV (List UInt8))) (s : S) (w : World) (h : MapAtS w mb l) (ht : s.2 ≤ top) (hl : l.length ≤ 50000) :
    Calls Try.prog 19 #[.pointer (some ⟨mb, 0, none⟩), aggS s] w fun e w' => e = .returned (.bool (decide (Ok s))) ∧
      ∃ l', MapAtS w' mb l' ∧ MapOf l' (fun b u => Val l b u ∧ ¬ Has s b) ∧ l'.length ≤ l.length + 2 ∧ Only mb w w' := by
  have hval := fun W : World => valid_below s W
  obtain ⟨p1, hp1⟩ : ∃ p, p = w.heap.size := ⟨_, rfl⟩
  obtain ⟨w1, hw1⟩ : ∃ w1, w1 = w.alloc (.cells #[.int .i64 s.1, .int .i64 s.2] 23) := ⟨_, rfl⟩
  have hb0 : Below w.heap.size w w1 := hw1 ▸ (Below.refl _ w).alloc (Nat.le_refl _) _
  have sp : Sits w1 p1 23 #[.int .i64 s.1, .int .i64 s.2] := hw1 ▸ hp1 ▸ Sits.fresh w _ _
  have c0 := sp.cell 0
  have c1 := sp.cell 1
  simp at c0 c1
  rw [hw1, hp1] at c0 c1
  by_cases hs : Ok s
  · have d : decide (Ok s) = true := decide_eq_true hs
    rw [d] at hval ⊢
    have hn : Near s l (nearIS s l) (nearJS s l) := nearS_ok h.norm (by unfold Ok at hs; omega)
    have hlay := fun (W : World) (hW : Below w.heap.size w W) => layS_any mb l s (.slice none 0 0) [] W (h.below hW) hs (SliceAt.nil 3 encMS W)
      ⟨by simp, List.Pairwise.nil⟩ (fun y hy => by cases hy) ht hl (by simp)
      (laid_two hs ht (PNorm.sub h.norm (mid_sublist l _ _)).row (.inr (by simp)))
    have HLAY := Lib.hid hlay
    have HSP := Lib.hid sp
    have HB0 := Lib.hid hb0
    obtain ⟨a, b⟩ := s
    unfold aggS at hval HLAY ⊢
    simp only at hval HLAY c0 c1 ⊢
    clear hs d hn hlay sp hb0 h ht hl
    go_enter Try.func19, Try.ntmps19
    go_wp2_with fail
    rw [← hw1]
    refine (hval _).mono ?_
    rintro e w2 ⟨rfl, hB2⟩
    have HB2 := Lib.hid (HB0.out.trans (hB2.mono HB0.out.size))
    clear c0 c1
    have c0 := (HSP.out.below' hB2).cell 0
    have c1 := (HSP.out.below' hB2).cell 1
    simp at c0 c1
    rw [hp1] at c0 c1
    clear hB2 hval hw1
    go_wp2_with fail
    refine (HLAY.out _ HB2.out).mono ?_
    rintro e w4 ⟨rfl, l', hM, hmap, hlen, hO⟩
    have HQ := Lib.hid (And.intro hM (And.intro hmap (And.intro hlen ((Only.of_below mb HB2.out).trans hO))))
    clear hM hmap hlen hO c0 c1
    go_wp2
    go_ret
    exact ⟨rfl, l', HQ.out.1, HQ.out.2.1.iff fun c u => by simp [val_nil], HQ.out.2.2.1, HQ.out.2.2.2⟩
  · have d : decide (Ok s) = false := decide_eq_false hs
    rw [d] at hval ⊢
    have hfin : ∀ W, Below w.heap.size w W → ∃ l', MapAtS W mb l' ∧ MapOf l' (fun b u => Val l b u ∧ ¬ Has s b) ∧ l'.length ≤ l.length + 2 ∧ Only mb w W := fun W hW =>
      ⟨l, h.below hW, ⟨h.norm, fun b u => ⟨fun e => ⟨e, fun k => hs k.1⟩, fun e => e.1⟩⟩, by omega, Only.of_below mb hW⟩
    have HF := Lib.hid hfin
    have HB0 := Lib.hid hb0
    obtain ⟨a, b⟩ := s
    unfold aggS at hval ⊢
    simp only at hval c0 c1 ⊢
    clear hs d hfin sp hb0 h ht hl
    go_enter Try.func19, Try.ntmps19
    go_wp2_with fail
    rw [← hw1]
    refine (hval _).mono ?_
    rintro e w2 ⟨rfl, hB2⟩
    have HB2 := Lib.hid (HB0.out.trans (hB2.mono HB0.out.size))
    clear c0 c1 hB2 hval hw1
    go_wp2
    go_ret
    exact ⟨rfl, HF.out _ HB2.out⟩
theorem allS_any (mb : Nat) (l : List (PtV (List UInt8))) (w : World) (h : MapAtS w mb l) (hl : l.length ≤ 1000000) :
    Calls Try.prog 22 #[.pointer (some ⟨mb, 0, none⟩)] w fun e w' => ∃ x, e = .returned x ∧ MRowS w' w.heap.size x l ∧ Below w.heap.size w w' := by
  obtain ⟨v, hv, hr⟩ := h.row
  have hc := cloneMS_any v l w hr.parts hl
  have c0 := hv.cell 0
  simp at c0
  have HC := Lib.hid hc
  obtain ⟨A, cap, rfl, -, -, -, -⟩ := hr.form
  clear h hr hl hv hc
  go_enter Try.func22, Try.ntmps22
  go_wp2_with fail
  refine HC.out.mono ?_
  rintro e w2 ⟨x, rfl, hX, hB⟩
  obtain ⟨A2, cap2, ex, -⟩ := hX.parts.read
  subst ex
  have HQ := Lib.hid (And.intro hX hB)
  clear hX hB c0
  go_wp2
  go_ret
  exact ⟨_, rfl, HQ.out.1, HQ.out.2⟩
theorem getS_any (mb : Nat) (l : List (PtV (List UInt8))) (c : Int) (w : World) (h : MapAtS w mb l) (hl : l.length ≤ 1000000) :
    Calls Try.prog 21 #[.pointer (some ⟨mb, 0, none⟩), .int .i64 c] w fun e w' => e = .returned (.tuple #[(Value.string (str (((blockV l c).getD [])))), .bool (blockV l c).isSome]) ∧ Below w.heap.size w w' := by
  have hnear : Near (c, c) l (nearIS (c, c) l) (nearJS (c, c) l) := nearS_ok h.norm (Int.le_refl _)
  obtain ⟨v, hv, hr⟩ := h.row
  obtain ⟨A, cap, rfl, hc1, hc2, -, -⟩ := hr.form
  have hn := nearS_any mb (.slice A l.length cap) l (c, c) w hv hr.parts hl h.norm.row
  obtain ⟨i, hi⟩ : ∃ i, i = nearIS (c, c) l := ⟨_, rfl⟩
  obtain ⟨j, hj⟩ : ∃ j, j = nearJS (c, c) l := ⟨_, rfl⟩
  rw [← hi, ← hj] at hnear hn
  clear hi hj
  have hij := hnear.le
  have hjl := hnear.len
  rw [← blockV_mid hnear (Int.le_refl _) (Int.le_refl _)]
  have hold : ∀ W, Below w.heap.size w W → PtsS W (sliced A i j cap 3) (mid l i j) := fun W hW => PtsS.sliced (hr.parts.below hW) i j hnear.le hnear.len
  obtain ⟨vo, hvo⟩ : ∃ vo, vo = sliced A i j cap 3 := ⟨_, rfl⟩
  rw [← hvo] at hold
  have o1 : ∀ W : World, (Instr.slice 46 (.slice A l.length cap) (some (.int .i64 i)) (some (.int .i64 j)) none).run Try.prog W = .ok vo W := fun W => by
    rw [hvo, run_slice_lh W 46 A l.length cap Try.underlying46 .i64 .i64 i j (by omega) (by omega) (by omega)]; rfl
  have q1 : ∀ (W : World) (lo hi mx : Option Value), (Instr.sliceAt 46 (.slice A l.length cap) lo hi mx).run Try.prog W = (Instr.slice 46 (.slice A l.length cap) lo hi mx).run Try.prog W := fun W lo hi mx => run_sliceAt_slice W 46 _ lo hi mx Try.underlying46
  have hMl : (mid l i j).length ≤ 1000000 := by rw [mid_len hjl]; omega
  generalize mid l i j = M at hold hMl ⊢
  obtain ⟨r, hr0⟩ : ∃ r, r = blockV M c := ⟨_, rfl⟩
  rw [← hr0]
  have HR0 := Lib.hid hr0
  obtain ⟨A', cap', evo, hM1, hM2, hM3⟩ := (hold w (Below.refl _ _)).read
  subst evo
  have HO := Lib.hid hold
  have HV := Lib.hid hv
  have hlen : (M.length : Int) ≤ 1000000 := by omega
  unfold aggS at hn
  simp only at hn
  clear h hnear hv hr hc1 hl hold hvo hij hjl hMl hM1 hM2 hM3 hr0
  go_enter Try.func21, Try.ntmps21
  go_wp2_with fail
  refine hn.mono ?_
  rintro e w2 ⟨rfl, hB2⟩
  have HB2 := Lib.hid hB2
  have k0 := (HV.out.below' hB2).cell 0
  simp at k0
  clear hn hB2
  go_wp2_with fail
  go_loopw [30] (fun i wr => ∃ k : Nat, k ≤ M.length ∧ i = .int .i64 k ∧ Hid (Below w.heap.size w wr ∧ ∀ x ∈ M.take k, ¬ Has x.1 c)) (fun i _ => M.length - (intOf i).toNat)
  case atStart => exact ⟨0, by omega, rfl, Lib.hid ⟨HB2.out, by simp⟩⟩
  case round =>
    obtain ⟨k, hk, rfl, hI⟩ := hrel
    by_cases hlt : k < M.length
    · obtain ⟨A3, cap3, e3, -, -, h3⟩ := (HO.out wr hI.out.1).read
      simp only [Value.slice.injEq, true_and] at e3
      obtain ⟨rfl, rfl⟩ := e3
      obtain ⟨b1, o1', rfl, hbs, c0, c1, c2⟩ := h3 k hlt
      obtain ⟨y, hy⟩ : ∃ y, y = M[k] := ⟨_, rfl⟩
      rw [← hy] at c0 c1 c2
      obtain ⟨⟨y0, y1⟩, yv⟩ := y
      simp only at c0 c1 c2
      have hhas : ∀ W, Calls Try.prog 27 #[.agg #[.int .i64 y0, .int .i64 y1], .int .i64 c] W fun e w' => e = .returned (.bool (decide (Has (y0, y1) c))) ∧ Below W.heap.size W w' := fun W => (has_any (y0, y1) c W).mono fun _ _ ⟨h1, h2⟩ => ⟨h1, grown_below h2⟩
      obtain ⟨w3, hw3⟩ : ∃ w3, w3 = wr.alloc (.cells #[.int .i64 y0, .int .i64 y1, (Value.string (str yv))] 49) := ⟨_, rfl⟩
      have hb3 : Below wr.heap.size wr w3 := hw3 ▸ (Below.refl _ wr).alloc (Nat.le_refl _) _
      have sq : Sits w3 wr.heap.size 49 #[.int .i64 y0, .int .i64 y1, (Value.string (str yv))] := hw3 ▸ Sits.fresh wr _ _
      have SQ := Lib.hid sq
      have HB3 := Lib.hid (hI.out.1.trans (hb3.mono hI.out.1.size))
      have HY : Hid (∀ h : k < M.length, ((y0, y1), yv) = M[k]) := Lib.hid fun _ => hy
      have HLT := Lib.hid hlt
      clear h3 hbs hy hb3 sq
      by_cases hh : Has (y0, y1) c
      · rw [show decide (Has (y0, y1) c) = true from decide_eq_true hh] at hhas
        have HRS : Hid (r = some yv) := Lib.hid (by
          rw [HR0.out, blockV_at HLT.out hI.out.2 (by rw [← HY.out HLT.out]; exact hh), ← HY.out HLT.out])
        clear hh
        go_wp2_with fail
        rw [← hw3]
        refine (hhas _).mono ?_
        rintro e w4 ⟨rfl, hB4⟩
        have z2 := (SQ.out.below' hB4).cell 2
        simp at z2
        have HB4 := Lib.hid (HB3.out.trans (hB4.mono HB3.out.size))
        clear hB4 hhas hw3 c0 c1 c2
        go_wp2
        go_ret2
        exact ⟨by rw [HRS.out]; rfl, HB4.out⟩
      · rw [show decide (Has (y0, y1) c) = false from decide_eq_false hh] at hhas
        have HH : Hid (∀ x ∈ M.take (k + 1), ¬ Has x.1 c) := Lib.hid fun x hx => by
          rw [List.take_succ_eq_append_getElem HLT.out] at hx
          rcases List.mem_append.1 hx with hx | hx
          · exact hI.out.2 x hx
          · rw [List.mem_singleton.1 hx, ← HY.out HLT.out]; exact hh
        clear hh
        go_wp2_with fail
        rw [← hw3]
        refine (hhas _).mono ?_
        rintro e w4 ⟨rfl, hB4⟩
        have HB4 := Lib.hid (HB3.out.trans (hB4.mono HB3.out.size))
        clear hB4 hhas hw3 c0 c1 c2
        go_wp2
        go_roundw
        case measure => simp [intOf]; omega
        case rel => exact ⟨k + 1, by omega, by go_num, Lib.hid ⟨HB4.out, HH.out⟩⟩
    · obtain rfl : k = M.length := by omega
      have HRS : Hid (r = none) := Lib.hid (by
        rw [HR0.out]
        have := hI.out.2
        rw [List.take_length] at this
        exact blockV_off this)
      clear hk hlt
      go_wp2
      go_ret2
      exact ⟨by rw [HRS.out]; rfl, hI.out.1⟩
end Go.Proofs.Ytalmcflcpljnmaa
