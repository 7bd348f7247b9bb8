/- SessOnce's calm: a frame comes, and the loop in which all come. -/
import Derived.Test.YtbpcbdlmkoajdaaSlwF
namespace Go.Proofs.Ytbpcbdlmkoajdaa
open Go Go.RowKit SesP
set_option maxRecDepth 1000000
set_option maxHeartbeats 32000000
set_option linter.unusedSimpArgs false

/-- What a frame that came leaves. -/
def DrQ (f : Nat → Value) (w : World) (L : Int) (R : Nat) (s1 s : St) (Q : Exit → Act → World → Prop) : Prop :=
  ∀ a' w' s', KeepO (f 0) (f 11) (f 19) L s' a' → Has s'.hold w w' → DrI L R s1 s' → mu s'.a s'.b s'.way + 1 ≤ mu s.a s.b s.way → Q .normal a' w'
theorem dr_a (f : Nat → Value) (w wr : World) (s s1 : St) (L : Int) (R : Nat) (fr : Frm) (l : List Frm) (hw : s.way = fr :: l) (ht : fr.t = 1) (hH : Has s.hold w wr) (hD : DrI L R s1 s) (hR : R ≤ 16000) (hC : s1.c + mu s1.a s1.b s1.way ≤ 2000000) (hls : s.sent.length ≤ 150 ∧ s.down.length ≤ 150) (hf : KeepF f L s) (Q : Exit → Act → World → Prop) (hQ : DrQ f w L R s1 s Q) :
    Code.wp Try.prog drainB Q ⟨frame f, []⟩ wr := by
  have hI := st_with hH
  obtain ⟨⟨Aw, cw, ew⟩, ⟨As, cs, es⟩, ⟨Ag, cg, eg⟩, ⟨Ad, cd, ed⟩, ⟨Ah, ch, eh⟩⟩ := st_forms hI
  have hrm := hD.room
  have hus := hD.uses
  have hwl : s.way.length = l.length + 1 := by rw [hw]; rfl
  rw [hwl] at ew
  obtain ⟨b, p, rfl, hbl, q0, q1, q2, q3, q4, q5, q6, q7⟩ := st_at hI (by rw [hwl]; exact ew) 0 (by omega)
  have hw0 : s.way[0]'(by omega) = fr := by simp [hw]
  rw [hw0] at q0 q1 q2 q3 q4 q5 q6 q7
  simp only [Nat.zero_mul, Nat.add_zero] at q0 q1 q2 q3 q4 q5 q6 q7
  have t1 : (fr.t == 1) = true := by simp [ht]
  have h1 := hH.with_ s.hold_ok (box_f wr fr)
  obtain ⟨W1, hW1⟩ : ∃ W1, W1 = wr.alloc (.cells #[.int .i64 fr.f, .int .i64 fr.t, .int .i64 fr.m, .int .i64 fr.y, .int .i64 fr.s, .int .i64 fr.a, .string (str fr.d), .bool fr.h] 34) := ⟨_, rfl⟩
  obtain ⟨fb, hfb⟩ : ∃ fb, fb = wr.heap.size := ⟨_, rfl⟩
  rw [← hW1, ← hfb] at h1
  obtain ⟨A3, c3, g1, h6⟩ := st_tail (holdBF _ _) h1 hw ew
  obtain ⟨_, hbf⟩ := st_other h1
  obtain ⟨z0, z1, z2, z3, z4, z5, z6, z7, zl⟩ := hbf.cells
  have hfin := hD.once.fin fr (by rw [hw]; exact List.mem_cons_self)
  have htk := st_takeA (holdBF _ _) h6 fr hfin (by show s.c + 1 ≤ 100000000; omega)
  unfold aggF at htk
  have HTK := Lib.hid htk
  have HST := Lib.hid (fun hN v v' => hD.stepA hw ht hN v v')
  have HLS : Hid (s.sent.length ≤ 150) := Lib.hid (by omega)
  have HLL : Hid (l.length ≤ 4000) := Lib.hid (by omega)
  obtain ⟨n, hn⟩ : ∃ n, n = l.length := ⟨_, rfl⟩
  have hn4 : (n : Int) ≤ 4000 := by omega
  have h3 := hf.s3
  have h4 := hf.s4
  have h5 := hf.s5
  have h6' := hf.s6.trans ew
  have h7 := hf.s7.trans es
  have h8 := hf.s8.trans eg
  have h9 := hf.s9.trans ed
  have h10 := hf.s10.trans eh
  rw [← hn] at h6' g1 HTK
  have HQ := Lib.hid hQ
  have ES := Lib.hid es
  have EG := Lib.hid eg
  have ED := Lib.hid ed
  have EH := Lib.hid eh
  have hp0 : decide ((0 : Int) < (n : Int) + 1) = true := decide_eq_true (by omega)
  have hp1 : decide ((n : Int) + 1 < 5000) = true := decide_eq_true (by omega)
  have hp2 : decide (n + 1 < 5000) = true := decide_eq_true (by omega)
  have hpi : (0 : Int) < (n : Int) + 1 := by omega
  have hp9 : (1 : Int) ≤ (n : Int) + 1 := by omega
  rw [hW1, hfb] at z0 z1 z2 z3 z4 z5 z6 z7 zl
  have HW1 := Lib.hid (And.intro hW1 hfb)
  have HNN := Lib.hid hn
  clear hI hH hD hf ew es eg ed eh hQ hrm hus hwl h1 h6 hbf hfin htk hW1 hfb hn hw ht hR hC hls hw0
  unfold frame
  rw [h3, h4, h5, h6', h7, h8, h9, h10]
  clear h3 h4 h5 h6' h7 h8 h9 h10
  conv => arg 2; whnf
  go_wp2_with fail
  rw [← HW1.out.1]
  refine HTK.out.mono ?_
  rintro e w7 ⟨v7, rfl, hr7, h7⟩
  have hnr := st_near h7
  have hst := HST.out hnr.1.1
  obtain ⟨B7, b7, rfl, -, -, -, -⟩ := hr7.form
  have hlg : s.got.length + (takeL s.a fr).length ≤ 150 := by
    have e : s.got ++ takeL s.a fr = s.sent.take (takeS s.a fr).n := (hst (.slice none 0 0) (.slice none 0 0)).1.once.got
    have e2 : (s.got ++ takeL s.a fr).length ≤ s.sent.length := by rw [e, List.length_take]; exact Nat.min_le_right _ _
    rw [List.length_append] at e2
    have := HLS.out
    omega
  obtain ⟨A8, c8, W8, hr8, h8⟩ := st_got (holdBF _ _) h7 hr7 27 (by show s.got.length + (takeL s.a fr).length ≤ 1000000; omega)
  obtain ⟨n8, hn8⟩ : ∃ n8, n8 = s.got.length + (takeL s.a fr).length := ⟨_, rfl⟩
  obtain ⟨nt, hnt⟩ : ∃ nt, nt = (takeL s.a fr).length := ⟨_, rfl⟩
  have hr8' : (Builtin.append_ #[27, 27] 27 #[.slice Ag s.got.length cg, .slice B7 nt b7]).run Try.prog w7 = .ok (.slice A8 n8 c8) W8 := by rw [← EG.out, hn8, hnt]; exact hr8
  have h8' : Has (Both { s with a := takeS s.a fr, c := s.c + 1, vw := .slice A3 n c3, way := l, vg := .slice A8 n8 c8, got := s.got ++ takeL s.a fr }.hold (BoxF fb fr)) w W8 := by rw [hn8]; exact h8
  rw [← hnt]
  have HR8 := Lib.hid hr8'
  have HOU := Lib.hid (st_outA (holdBF _ _) h8')
  have HNR := Lib.hid hnr
  have HO2 := Lib.hid hst
  clear hr7 h7 hr8 hr8' h8 h8' hnr hst hn8 hnt hlg HTK z0 z1 z2 z3 z4 z5 z6 z7 zl q0 q1 q2 q3 q4 q5 q6 q7 g1
  go_wp2_with (at_builtin; refine wpList_append_eq rfl (.tmp 259) (.tmp 260) 27 27 rfl _ _ _ rfl rfl HR8.out ?_)
  refine HOU.out.mono ?_
  rintro e w9 ⟨v9, rfl, hr9, h9⟩
  obtain ⟨B9, b9, rfl, -⟩ := frow_at hr9
  have hx9 := h9
  rw [HNN.out] at hx9
  obtain ⟨A11, c11, W11, hr11, h11⟩ := st_way (holdBF _ _) hx9 hr9 26 (by have := outF_len (takeS s.a fr) HNR.out.1.2; have := HLL.out; show l.length + (outF (takeS s.a fr)).length ≤ 1000000; omega)
  obtain ⟨n11, hn11⟩ : ∃ n11, n11 = l.length + (outF (takeS s.a fr)).length := ⟨_, rfl⟩
  obtain ⟨no, hno⟩ : ∃ no, no = (outF (takeS s.a fr)).length := ⟨_, rfl⟩
  have hr11' : (Builtin.append_ #[26, 26] 26 #[.slice A3 n c3, .slice B9 no b9]).run Try.prog w9 = .ok (.slice A11 n11 c11) W11 := by rw [hn11, hno, HNN.out]; exact hr11
  have H11 : Hid (Has (Both { s with a := outS (takeS s.a fr), c := s.c + 1, vw := .slice A11 n11 c11, way := l ++ outF (takeS s.a fr), vg := .slice A8 n8 c8, got := s.got ++ takeL s.a fr }.hold (BoxF fb fr)) w W11) := Lib.hid (by rw [hn11]; exact h11)
  rw [← hno]
  have HR11 := Lib.hid hr11'
  clear hr9 h9 hx9 hr11 hr11' h11 hn11 hno HOU HR8
  go_wp2_with (at_builtin; refine wpList_append_eq rfl (.tmp 262) (.tmp 264) 26 26 rfl _ _ _ rfl rfl HR11.out ?_)
  exact HQ.out _ _ { s with a := outS (takeS s.a fr), c := s.c + 1, vw := .slice A11 n11 c11, way := l ++ outF (takeS s.a fr), vg := .slice A8 n8 c8, got := s.got ++ takeL s.a fr } ⟨rfl, rfl, rfl, rfl, rfl, rfl, rfl, ES.out.symm, rfl, ED.out.symm, EH.out.symm, rfl, rfl⟩ (H11.out.fst (St.hold_ok _)) (HO2.out (.slice A11 n11 c11) (.slice A8 n8 c8)).1 (HO2.out (.slice A11 n11 c11) (.slice A8 n8 c8)).2
theorem dr_b (f : Nat → Value) (w wr : World) (s s1 : St) (L : Int) (R : Nat) (fr : Frm) (l : List Frm) (hw : s.way = fr :: l) (ht : fr.t ≠ 1) (hH : Has s.hold w wr) (hD : DrI L R s1 s) (hR : R ≤ 16000) (hC : s1.c + mu s1.a s1.b s1.way ≤ 2000000) (hls : s.sent.length ≤ 150 ∧ s.down.length ≤ 150) (hf : KeepF f L s) (Q : Exit → Act → World → Prop) (hQ : DrQ f w L R s1 s Q) :
    Code.wp Try.prog drainB Q ⟨frame f, []⟩ wr := by
  have hI := st_with hH
  obtain ⟨⟨Aw, cw, ew⟩, ⟨As, cs, es⟩, ⟨Ag, cg, eg⟩, ⟨Ad, cd, ed⟩, ⟨Ah, ch, eh⟩⟩ := st_forms hI
  have hrm := hD.room
  have hus := hD.uses
  have hwl : s.way.length = l.length + 1 := by rw [hw]; rfl
  rw [hwl] at ew
  obtain ⟨b, p, rfl, hbl, q0, q1, q2, q3, q4, q5, q6, q7⟩ := st_at hI (by rw [hwl]; exact ew) 0 (by omega)
  have hw0 : s.way[0]'(by omega) = fr := by simp [hw]
  rw [hw0] at q0 q1 q2 q3 q4 q5 q6 q7
  simp only [Nat.zero_mul, Nat.add_zero] at q0 q1 q2 q3 q4 q5 q6 q7
  have t1 : (fr.t == 1) = false := by simp [ht]
  have h1 := hH.with_ s.hold_ok (box_f wr fr)
  obtain ⟨W1, hW1⟩ : ∃ W1, W1 = wr.alloc (.cells #[.int .i64 fr.f, .int .i64 fr.t, .int .i64 fr.m, .int .i64 fr.y, .int .i64 fr.s, .int .i64 fr.a, .string (str fr.d), .bool fr.h] 34) := ⟨_, rfl⟩
  obtain ⟨fb, hfb⟩ : ∃ fb, fb = wr.heap.size := ⟨_, rfl⟩
  rw [← hW1, ← hfb] at h1
  obtain ⟨A3, c3, g1, h6⟩ := st_tail (holdBF _ _) h1 hw ew
  obtain ⟨_, hbf⟩ := st_other h1
  obtain ⟨z0, z1, z2, z3, z4, z5, z6, z7, zl⟩ := hbf.cells
  have hfin := hD.once.fin fr (by rw [hw]; exact List.mem_cons_self)
  have htk := st_takeB (holdBF _ _) h6 fr hfin (by show s.c + 1 ≤ 100000000; omega)
  unfold aggF at htk
  have HTK := Lib.hid htk
  have HST := Lib.hid (fun hN v v' => hD.stepB hw ht hN v v')
  have HLS : Hid (s.down.length ≤ 150) := Lib.hid (by omega)
  have HLL : Hid (l.length ≤ 4000) := Lib.hid (by omega)
  obtain ⟨n, hn⟩ : ∃ n, n = l.length := ⟨_, rfl⟩
  have hn4 : (n : Int) ≤ 4000 := by omega
  have h3 := hf.s3
  have h4 := hf.s4
  have h5 := hf.s5
  have h6' := hf.s6.trans ew
  have h7 := hf.s7.trans es
  have h8 := hf.s8.trans eg
  have h9 := hf.s9.trans ed
  have h10 := hf.s10.trans eh
  rw [← hn] at h6' g1 HTK
  have HQ := Lib.hid hQ
  have ES := Lib.hid es
  have EG := Lib.hid eg
  have ED := Lib.hid ed
  have EH := Lib.hid eh
  have hp0 : decide ((0 : Int) < (n : Int) + 1) = true := decide_eq_true (by omega)
  have hp1 : decide ((n : Int) + 1 < 5000) = true := decide_eq_true (by omega)
  have hp2 : decide (n + 1 < 5000) = true := decide_eq_true (by omega)
  have hpi : (0 : Int) < (n : Int) + 1 := by omega
  have hp9 : (1 : Int) ≤ (n : Int) + 1 := by omega
  rw [hW1, hfb] at z0 z1 z2 z3 z4 z5 z6 z7 zl
  have HW1 := Lib.hid (And.intro hW1 hfb)
  have HNN := Lib.hid hn
  clear hI hH hD hf ew es eg ed eh hQ hrm hus hwl h1 h6 hbf hfin htk hW1 hfb hn hw ht hR hC hls hw0
  unfold frame
  rw [h3, h4, h5, h6', h7, h8, h9, h10]
  clear h3 h4 h5 h6' h7 h8 h9 h10
  conv => arg 2; whnf
  go_wp2_with fail
  rw [← HW1.out.1]
  refine HTK.out.mono ?_
  rintro e w7 ⟨v7, rfl, hr7, h7⟩
  have hnr := st_near h7
  have hst := HST.out hnr.2.1
  obtain ⟨B7, b7, rfl, -, -, -, -⟩ := hr7.form
  have hlg : s.heard.length + (takeL s.b fr).length ≤ 150 := by
    have e : s.heard ++ takeL s.b fr = s.down.take (takeS s.b fr).n := (hst (.slice none 0 0) (.slice none 0 0)).1.once.heard
    have e2 : (s.heard ++ takeL s.b fr).length ≤ s.down.length := by rw [e, List.length_take]; exact Nat.min_le_right _ _
    rw [List.length_append] at e2
    have := HLS.out
    omega
  obtain ⟨A8, c8, W8, hr8, h8⟩ := st_heard (holdBF _ _) h7 hr7 27 (by show s.heard.length + (takeL s.b fr).length ≤ 1000000; omega)
  obtain ⟨n8, hn8⟩ : ∃ n8, n8 = s.heard.length + (takeL s.b fr).length := ⟨_, rfl⟩
  obtain ⟨nt, hnt⟩ : ∃ nt, nt = (takeL s.b fr).length := ⟨_, rfl⟩
  have hr8' : (Builtin.append_ #[27, 27] 27 #[.slice Ah s.heard.length ch, .slice B7 nt b7]).run Try.prog w7 = .ok (.slice A8 n8 c8) W8 := by rw [← EH.out, hn8, hnt]; exact hr8
  have h8' : Has (Both { s with b := takeS s.b fr, c := s.c + 1, vw := .slice A3 n c3, way := l, vh := .slice A8 n8 c8, heard := s.heard ++ takeL s.b fr }.hold (BoxF fb fr)) w W8 := by rw [hn8]; exact h8
  rw [← hnt]
  have HR8 := Lib.hid hr8'
  have HOU := Lib.hid (st_outB (holdBF _ _) h8')
  have HNR := Lib.hid hnr
  have HO2 := Lib.hid hst
  clear hr7 h7 hr8 hr8' h8 h8' hnr hst hn8 hnt hlg HTK z0 z1 z2 z3 z4 z5 z6 z7 zl q0 q1 q2 q3 q4 q5 q6 q7 g1
  go_wp2_with (at_builtin; refine wpList_append_eq rfl (.tmp 272) (.tmp 273) 27 27 rfl _ _ _ rfl rfl HR8.out ?_)
  refine HOU.out.mono ?_
  rintro e w9 ⟨v9, rfl, hr9, h9⟩
  obtain ⟨B9, b9, rfl, -⟩ := frow_at hr9
  have hx9 := h9
  rw [HNN.out] at hx9
  obtain ⟨A11, c11, W11, hr11, h11⟩ := st_way (holdBF _ _) hx9 hr9 26 (by have := outF_len (takeS s.b fr) HNR.out.2.2; have := HLL.out; show l.length + (outF (takeS s.b fr)).length ≤ 1000000; omega)
  obtain ⟨n11, hn11⟩ : ∃ n11, n11 = l.length + (outF (takeS s.b fr)).length := ⟨_, rfl⟩
  obtain ⟨no, hno⟩ : ∃ no, no = (outF (takeS s.b fr)).length := ⟨_, rfl⟩
  have hr11' : (Builtin.append_ #[26, 26] 26 #[.slice A3 n c3, .slice B9 no b9]).run Try.prog w9 = .ok (.slice A11 n11 c11) W11 := by rw [hn11, hno, HNN.out]; exact hr11
  have H11 : Hid (Has (Both { s with b := outS (takeS s.b fr), c := s.c + 1, vw := .slice A11 n11 c11, way := l ++ outF (takeS s.b fr), vh := .slice A8 n8 c8, heard := s.heard ++ takeL s.b fr }.hold (BoxF fb fr)) w W11) := Lib.hid (by rw [hn11]; exact h11)
  rw [← hno]
  have HR11 := Lib.hid hr11'
  clear hr9 h9 hx9 hr11 hr11' h11 hn11 hno HOU HR8
  go_wp2_with (at_builtin; refine wpList_append_eq rfl (.tmp 275) (.tmp 277) 26 26 rfl _ _ _ rfl rfl HR11.out ?_)
  exact HQ.out _ _ { s with b := outS (takeS s.b fr), c := s.c + 1, vw := .slice A11 n11 c11, way := l ++ outF (takeS s.b fr), vh := .slice A8 n8 c8, heard := s.heard ++ takeL s.b fr } ⟨rfl, rfl, rfl, rfl, rfl, rfl, rfl, ES.out.symm, EG.out.symm, ED.out.symm, rfl, rfl, rfl⟩ (H11.out.fst (St.hold_ok _)) (HO2.out (.slice A11 n11 c11) (.slice A8 n8 c8)).1 (HO2.out (.slice A11 n11 c11) (.slice A8 n8 c8)).2
/-- Nothing is on its way: the loop is left. -/
theorem dr_none (f : Nat → Value) (wr : World) (s : St) (L : Int) (cw : Nat) (Aw : Option Addr) (ew : s.vw = .slice Aw 0 cw) (hf : KeepF f L s) (Q : Exit → Act → World → Prop) (hQ : ∀ a', KeepO (f 0) (f 11) (f 19) L s a' → Q (.exit 5) a' wr) :
    Code.wp Try.prog drainB Q ⟨frame f, []⟩ wr := by
  have h3 := hf.s3
  have h4 := hf.s4
  have h5 := hf.s5
  have h6 := hf.s6.trans ew
  have E6 := Lib.hid ew
  have E7 := Lib.hid hf.s7
  have E8 := Lib.hid hf.s8
  have E9 := Lib.hid hf.s9
  have E10 := Lib.hid hf.s10
  have HQ := Lib.hid hQ
  clear hf ew hQ
  unfold frame
  rw [h3, h4, h5, h6]
  clear h3 h4 h5 h6
  conv => arg 2; whnf
  go_wp2_with fail
  exact HQ.out _ ⟨rfl, rfl, rfl, rfl, rfl, rfl, E6.out.symm, E7.out, E8.out, E9.out, E10.out, rfl, rfl⟩
/-- The least number of which something is so. -/
theorem least (P : Nat → Prop) (h : ∃ n, P n) : ∃ n, P n ∧ ∀ m, P m → n ≤ m := by
  obtain ⟨n, hn⟩ := h
  induction n using Nat.strongRecOn with
  | ind n ih =>
    by_cases hx : ∃ m, m < n ∧ P m
    · obtain ⟨m, hm, hp⟩ := hx
      exact ih m hm hp
    · exact ⟨n, hn, fun m hm => by
        rcases Nat.lt_or_ge m n with h | h
        · exact absurd ⟨m, h, hm⟩ hx
        · exact h⟩
noncomputable def leastN (P : Nat → Prop) : Nat := @dite _ (∃ n, P n) (Classical.propDecidable _) (fun h => Classical.choose (least P h)) (fun _ => 0)
theorem leastN_is {P : Nat → Prop} (h : ∃ n, P n) : P (leastN P) := by
  unfold leastN
  rw [dif_pos h]
  exact (Classical.choose_spec (least P h)).1
theorem leastN_le {P : Nat → Prop} {m : Nat} (h : P m) : leastN P ≤ m := by
  unfold leastN
  rw [dif_pos ⟨m, h⟩]
  exact (Classical.choose_spec (least P ⟨m, h⟩)).2 m h
/-- All that is on its way comes. -/
theorem drain_act (w wr : World) (s1 : St) (L : Int) (R : Nat) (hR : R ≤ 16000) (hC : s1.c + mu s1.a s1.b s1.way ≤ 2000000) (hls : s1.sent.length ≤ 150 ∧ s1.down.length ≤ 150) (hH : Has s1.hold w wr) (hD : DrI L R s1 s1) (v0 vi v19 : Value) (Q : Exit → Act → World → Prop) (a0 : Act) (hK : KeepO v0 vi v19 L s1 a0)
    (hQ : ∀ a' w' s', KeepO v0 vi v19 L s' a' → Has s'.hold w w' → DrI L R s1 s' → s'.way = [] → Q (.exit 5) a' w') : Code.wp Try.prog (.loop drainB) Q a0 wr := by
  refine wp_loop (fun a' w' => ∃ s, KeepO v0 vi v19 L s a' ∧ Has s.hold w w' ∧ DrI L R s1 s) (fun a' w' => leastN fun n => ∃ s, (KeepO v0 vi v19 L s a' ∧ Has s.hold w w' ∧ DrI L R s1 s) ∧ mu s.a s.b s.way = n) ⟨s1, hK, hH, hD⟩ ?_
  rintro a' w' ⟨s0, hs0⟩
  have hex : ∃ n, ∃ s, (KeepO v0 vi v19 L s a' ∧ Has s.hold w w' ∧ DrI L R s1 s) ∧ mu s.a s.b s.way = n := ⟨_, s0, hs0, rfl⟩
  obtain ⟨s, ⟨hk, hh, hd⟩, hm⟩ := leastN_is hex
  simp only [← hm]
  clear hex hs0 hm
  rw [open_act a' hk.d hk.z]
  have e0 := hk.s0
  have e11 := hk.s11
  have e19 := hk.s19
  have hfin : ∀ a'' w'' s', KeepO (a'.tmps.getD 0 undef) (a'.tmps.getD 11 undef) (a'.tmps.getD 19 undef) L s' a'' → Has s'.hold w w'' → DrI L R s1 s' → mu s'.a s'.b s'.way + 1 ≤ mu s.a s.b s.way → (∃ s, KeepO v0 vi v19 L s a'' ∧ Has s.hold w w'' ∧ DrI L R s1 s) ∧ leastN (fun n => ∃ s, (KeepO v0 vi v19 L s a'' ∧ Has s.hold w w'' ∧ DrI L R s1 s) ∧ mu s.a s.b s.way = n) < mu s.a s.b s.way := by
    intro a'' w'' s' hk' hh' hd' hmu
    rw [e0, e11, e19] at hk'
    refine ⟨⟨s', hk', hh', hd'⟩, Nat.lt_of_le_of_lt (leastN_le ⟨s', ⟨hk', hh', hd'⟩, rfl⟩) (by omega)⟩
  have hl2 : s.sent.length ≤ 150 ∧ s.down.length ≤ 150 := by rw [hd.sent, hd.down]; exact hls
  cases hw : s.way with
  | nil =>
    obtain ⟨⟨Aw, cw, ew⟩, -⟩ := st_forms (st_with hh)
    rw [hw] at ew
    refine dr_none (fun n => a'.tmps.getD n undef) w' s L cw Aw ew hk.f _ fun a'' hk'' => ?_
    simp only [e0, e11, e19] at hk''
    exact hQ a'' w' s hk'' hh hd hw
  | cons fr l =>
    by_cases ht : fr.t = 1
    · exact dr_a (fun n => a'.tmps.getD n undef) w w' s s1 L R fr l hw ht hh hd hR hC hl2 hk.f _ (fun a'' w'' s' h1 h2 h3 h4 => by rw [← hw]; exact hfin a'' w'' s' h1 h2 h3 h4)
    · exact dr_b (fun n => a'.tmps.getD n undef) w w' s s1 L R fr l hw ht hh hd hR hC hl2 hk.f _ (fun a'' w'' s' h1 h2 h3 h4 => by rw [← hw]; exact hfin a'' w'' s' h1 h2 h3 h4)
end Go.Proofs.Ytbpcbdlmkoajdaa
