/- SessOnce's switch: a frame comes. -/
import Derived.Test.YtbpcbdlmkoajdaaSlwC
namespace Go.Proofs.Ytbpcbdlmkoajdaa
open Go Go.RowKit SesP
set_option maxRecDepth 1000000
set_option maxHeartbeats 32000000
set_option linter.unusedSimpArgs false

theorem Both.assoc {A B C : (Nat → Prop) → World → Prop} {S : Nat → Prop} {w : World} (h : Both (Both A B) C S w) : Both A (Both B C) S w := by
  obtain ⟨S1, S2, ⟨S3, S4, h1, h2, h3, h4⟩, h5, h6, h7⟩ := h
  exact ⟨S3, fun k => S4 k ∨ S2 k, h1, ⟨S4, S2, h2, h5, fun k a b => h6 k (h4 k (.inr a)) b, fun k hk => hk⟩, fun k a b => b.elim (fun e => h3 k a e) fun e => h6 k (h4 k (.inl a)) e, fun k hk => hk.elim (fun e => h7 k (.inl (h4 k (.inl e)))) fun e => e.elim (fun e => h7 k (.inl (h4 k (.inr e)))) fun e => h7 k (.inr e)⟩
theorem so_a (f : Nat → Value) (w wr : World) (s : St) (L : Int) (i x y ob : Nat) (kd kk : Int) (dt : List UInt8) (Q : Exit → Act → World → Prop) (hI : Has (Both s.hold (BoxW ob kd kk dt)) w wr) (hO : Once L s) (hN : OnceN x y s) (hxy : x + y = i) (hi : i < 150) (hL : L ≤ 20) (hf : KeepF f L s) (h12 : f 12 = .pointer (some ⟨ob, 0, none⟩)) (hQ : SwO (f 0) (f 11) (f 19) w i Q) (e1 : (kd == 1) = false) (e2 : (kd == 2) = false) (e4 : (kd == 4) = false) (e6 : (kd == 6) = false) (hcc : ((kd == 7) = false ∧ (kd == 5) = false) ∨ ((kd == 7) = true ∧ decide (L < 20) = false ∧ (kd == 5) = false) ∨ ((kd == 7) = false ∧ (kd == 5) = true ∧ decide ((s.way.length : Int) < 200) = false)) (k : Nat) (hk : k < s.way.length) (h13 : f 13 = .int .i64 (k : Int)) (ht : s.way[k].t = 1) :
    Code.wp Try.prog swL Q ⟨frame f, []⟩ wr := by
  obtain ⟨⟨Aw, cw, ew⟩, ⟨As, cs, es⟩, ⟨Ag, cg, eg⟩, ⟨Ad, cd, ed⟩, ⟨Ah, ch, eh⟩⟩ := st_forms hI
  obtain ⟨_, hbx⟩ := st_other hI
  obtain ⟨o0, o1, o2, ol⟩ := hbx.cells
  clear hbx
  have hmost := hN.most (by omega)
  obtain ⟨b, p, rfl, hbl, q0, q1, q2, q3, q4, q5, q6, q7⟩ := st_at hI ew k hk
  have t0 : ((s.way.length : Int) == 0) = false := by simp; intro e; rw [e] at hk; simp at hk
  have hkI : (k : Int) < (s.way.length : Int) := by omega
  have ew1 : IntKind.i64.wrap ((k : Int) + 1) = (k : Int) + 1 := IntWalk.i64_in _ (by omega)
  have hkl : (k : Int) ≤ (s.way.length : Int) := by omega
  have hk1 : (k : Int) + 1 ≤ (s.way.length : Int) := by omega
  have hsm : (s.way.length : Int) ≤ 2000 := by omega
  have hfin := hO.fin s.way[k] (List.getElem_mem hk)
  have hon := fun (hX : Near (s.c + 1) (takeS s.a s.way[k])) v v' => hO.takeA k hk ht hX v v' (s.c + 1)
  have honn := fun v v' g => hN.takeA k hk (by exact hO.db.yx.1) v v' g
  have hlen1 : (s.way.eraseIdx k).length ≤ 2000 := by have : (s.way.eraseIdx k).length ≤ s.way.length := List.length_eraseIdx_le ..; omega
  obtain ⟨fr, hfr⟩ : ∃ fr, fr = s.way[k] := ⟨_, rfl⟩
  rw [← hfr] at q0 q1 q2 q3 q4 q5 q6 q7 hfin hon honn ht
  have t1 : (fr.t == 1) = true := by simp [ht]
  have h1 := (hI.with_ (s.hold_ok.both (holdW _ _ _ _)) (box_f wr fr)).imp fun _ h => Both.assoc h
  obtain ⟨W1, hW1⟩ : ∃ W1, W1 = wr.alloc (.cells #[.int .i64 fr.f, .int .i64 fr.t, .int .i64 fr.m, .int .i64 fr.y, .int .i64 fr.s, .int .i64 fr.a, .string (str fr.d), .bool fr.h] 34) := ⟨_, rfl⟩
  obtain ⟨fb, hfb⟩ : ∃ fb, fb = wr.heap.size := ⟨_, rfl⟩
  rw [← hW1, ← hfb] at h1
  have hX : Hold (Both (BoxW ob kd kk dt) (BoxF fb fr)) := (holdW _ _ _ _).both (holdBF _ _)
  obtain ⟨A1, c1, A2, c2, B1, b1, u1, A3, c3, u2, g1, g2, r1, r2, h6⟩ := st_cut hX h1 ew k hk (by omega) 26
  obtain ⟨nl, hnl⟩ : ∃ nl, nl = s.way.length - (k + 1) := ⟨_, rfl⟩
  obtain ⟨ne, hne⟩ : ∃ ne, ne = s.way.length - 1 := ⟨_, rfl⟩
  rw [← hnl] at g2 r2
  rw [← hne] at r2 h6
  have R1 := Lib.hid r1
  have R2 := Lib.hid r2
  obtain ⟨_, ⟨_, _, _, hbf, _⟩⟩ := st_other h6
  have hbc := hbf.cells
  have HTK := Lib.hid (st_takeA hX h6 fr hfin (by show s.c + 1 ≤ 100000000; omega))
  have HON := Lib.hid hon
  have HONN := Lib.hid honn
  have HLS : Hid (s.sent.length ≤ 150) := Lib.hid (by omega)
  have HE1 := Lib.hid hlen1
  have HX := Lib.hid hX
  have HW1 := Lib.hid hW1
  have HFB := Lib.hid hfb
  have HBC := Lib.hid hbc
  clear h1 r1 r2 h6 hbf hbc hfin hon honn hlen1 hX hW1 hfb hnl hne hk hfr ht
  have h3 := hf.s3
  have h4 := hf.s4
  have h5 := hf.s5
  have h6 := hf.s6.trans ew
  have h7 := hf.s7.trans es
  have h8 := hf.s8.trans eg
  have h9 := hf.s9.trans ed
  have h10 := hf.s10.trans eh
  have HQ := Lib.hid hQ
  have HXY := Lib.hid hxy
  have EW := Lib.hid ew
  have ES := Lib.hid es
  have EG := Lib.hid eg
  have ED := Lib.hid ed
  have EH := Lib.hid eh
  have HO := Lib.hid hO
  have HN := Lib.hid hN
  clear hI hO hN hQ hf hmost ew es eg ed eh hxy
  unfold frame
  rw [h3, h4, h5, h6, h7, h8, h9, h10, h12, h13]
  clear h13 h3 h4 h5 h6 h7 h8 h9 h10 h12
  conv => arg 2; whnf
  rcases hcc with ⟨t7, t5⟩ | ⟨t7, t20, t5⟩ | ⟨t7, t5, t200⟩
  all_goals
    go_wp2_with fail
    rw [← HW1.out, ← HFB.out]
    refine wp_region_exV (by kernel_rfl) (ClsN [3, 8] (fun m W => W = w3of (W1).drew u1 u2 m))
      [[(6, none)], [(13, none)], [(69, some 0), (70, some 1)], [(71, some 2)], [(6, none)], [(13, none)], [(74, some 5)], [(73, some 4), (75, some 6)], [(72, some 3), (76, some 7)], [(77, some 8)]]
      [none, none, none, none, none, none, some 9, none, none, none, none, none, none, none, none, none, none, none, none, none, none, none, none, none, none, none, none, none, none, none, none, none, none, none, none, none, none, none, none, none, none, none, none, none, none, none, none, none, none, none, none, none, none, none, none, none, none, none, none, none, none, none, none, none, none, none, none, none, none, some 0, some 1, some 2, some 3, some 4, some 5, some 6, some 7, some 8, none, none, none, none, none, none, none, none, none, none, none, none, none, none, none, none, none, none, none, none, none, none, none, none, none, none, none, none, none, none, none, none, none, none, none, none, none, none, none, none, none, none, none, none, none, none, none, none, none, none, none, none, none, none, none, none, none, none, none, none, none, none, none, none, none, none, none, none, none, none, none, none, none, none, none, none, none, none, none, none, none, none, none, none, none, none, none, none, none, none, none, none, none, none, none, none, none, none, none, none, none, none, none, none, none, none, none, none, none, none, none, none, none, none, none, none, none, none, none, none, none, none, none, none, none, none, none, none, none, none, none, none, none, none, none, none, none, none, none, none, none, none, none, none, none, none, none, none, none, none, none, none, none, none, none, none, none, none, none, none, none, none, none, none, none, none, none, none, none, none, none, none, none, none, none, none, none, none, none, none, none, none, none, none, none, none, none, none, none, none, none, none, none, none, none, none, none, none, none, none, none, none, none, none, none, none, none, none, none, none, none, none, none, none, none, none, none, none, none, none, none, none, none, none, none, none, none, none, none, none, none, none] (by kernel_rfl) (by kernel_rfl) (ClsN.start rfl) ?_
    iterate 3
      refine exV_pure (c := ?_) (fun _ _ _ h => h.pure (by decide)) ?_ ?_
      rotate_left
      · intro a' d' W hR hF
        simp only [FactsV, List.nil_append, List.cons_append, List.getD_cons_zero, List.getD_cons_succ, exists_eq_left, and_true, true_and, List.getElem?_toArray, List.getElem?_cons_zero, List.getElem?_cons_succ] at hF
        refine ⟨?_, ?_⟩
        · simp [Region.wanted, yielded, hF]
        · go_simp
          with_reducible rfl
    refine exV_step (fun v => v = .slice B1 k b1) (fun a' d' W hd hR hF => ?_) ?_
    · skip
      simp only [FactsV, List.nil_append, List.cons_append, List.getD_cons_zero, List.getD_cons_succ, exists_eq_left, and_true, true_and, List.getElem?_toArray, List.getElem?_cons_zero, List.getElem?_cons_succ] at hF
      have h0 : W = (W1).drew := hR.here (t := 0) rfl hd (fun _ _ h => absurd h (by omega))
      exact ⟨by simp [Region.wanted, yielded, hF], .slice B1 k b1, u1, run_append_op (.const (.slice none 0 0)) (.tmp 71) _ _ rfl _ _ rfl (by simp [Act.eval, hF]) (h0 ▸ R1.out), rfl, hR.step (t := 0) (by decide) rfl hd (fun _ _ h => absurd h (by omega)) rfl⟩
    iterate 4
      refine exV_pure (c := ?_) (fun _ _ _ h => h.pure (by decide)) ?_ ?_
      rotate_left
      · intro a' d' W hR hF
        simp only [FactsV, List.nil_append, List.cons_append, List.getD_cons_zero, List.getD_cons_succ, exists_eq_left, and_true, true_and, List.getElem?_toArray, List.getElem?_cons_zero, List.getElem?_cons_succ] at hF
        refine ⟨?_, ?_⟩
        · simp [Region.wanted, yielded, hF]
        · go_simp
          with_reducible rfl
    refine exV_step (fun v => v = .slice A3 ne c3) (fun a' d' W hd hR hF => ?_) ?_
    · skip
      simp only [FactsV, List.nil_append, List.cons_append, List.getD_cons_zero, List.getD_cons_succ, exists_eq_left, and_true, true_and, List.getElem?_toArray, List.getElem?_cons_zero, List.getElem?_cons_succ] at hF
      have hp : ∀ j, ([3, 8] : List Nat)[1 - 1]? = some j → 0 < 1 → (d' j).isSome = true := fun j hj _ => by cases hj; rw [hF.1.2]; rfl
      have h1 : W = u1 := hR.here (t := 1) rfl hd hp
      exact ⟨by simp [Region.wanted, yielded, hF], .slice A3 ne c3, u2, run_append_op (.tmp 72) (.tmp 76) _ _ rfl _ _ (by simp [Act.eval, hF]) (by simp [Act.eval, hF]) (h1 ▸ R2.out), rfl, hR.step (t := 1) (by decide) rfl hd hp rfl⟩
    iterate 1
      refine exV_pure (c := ?_) (fun _ _ _ h => h.pure (by decide)) ?_ ?_
      rotate_left
      · intro a' d' W hR hF
        simp only [FactsV, List.nil_append, List.cons_append, List.getD_cons_zero, List.getD_cons_succ, exists_eq_left, and_true, true_and, List.getElem?_toArray, List.getElem?_cons_zero, List.getElem?_cons_succ] at hF
        refine ⟨?_, ?_⟩
        · simp [Region.wanted, yielded, hF]
        · go_simp
          with_reducible rfl
    show ∀ d W, _ → _ → _
    intro d w9 hA2 hR2
    simp only [FinV, List.nil_append, List.cons_append, List.getD_cons_zero, List.getD_cons_succ, forall_eq, forall_const, true_implies, forall_exists_index, and_imp, Nat.reduceAdd, Array.getD_eq_getD_getElem?, List.getElem?_toArray, List.getElem?_cons_zero, List.getElem?_cons_succ, Option.getD_some]
    have hw9 : w9 = u2 := hR2.done (t := 1) (k := 8) rfl rfl (hA2 8 (by decide))
    subst hw9
    clear hR2 hA2
    iterate 10 intro _
    obtain ⟨z0, z1, z2, z3, z4, z5, z6, z7, zl⟩ := HBC.out
    clear o0 o1 o2 ol q0 q1 q2 q3 q4 q5 q6 q7 g1 g2 R1 R2 hbl
    have HTK2 := HTK.out
    unfold aggF at HTK2
    have HTK3 := Lib.hid HTK2
    clear HTK2 HTK
    go_wp2_with fail
    refine HTK3.out.mono ?_
    rintro e w7 ⟨v7, rfl, hr7, h7⟩
    have hnr := st_near h7
    have hon := HON.out hnr.1.1
    obtain ⟨B7, b7, rfl, -, -, -, -⟩ := hr7.form
    have hlg : s.got.length + (takeL s.a fr).length ≤ 150 := by
      have e : s.got ++ takeL s.a fr = s.sent.take (takeS s.a fr).n := (hon (.slice none 0 0) (.slice none 0 0)).got
      have e2 : (s.got ++ takeL s.a fr).length ≤ s.sent.length := by rw [e, List.length_take]; exact Nat.min_le_right _ _
      rw [List.length_append] at e2
      have := HLS.out
      omega
    obtain ⟨A8, c8, W8, hr8, h8⟩ := st_got HX.out h7 hr7 27 (by show s.got.length + (takeL s.a fr).length ≤ 1000000; omega)
    obtain ⟨n8, hn8⟩ : ∃ n8, n8 = s.got.length + (takeL s.a fr).length := ⟨_, rfl⟩
    obtain ⟨nt, hnt⟩ : ∃ nt, nt = (takeL s.a fr).length := ⟨_, rfl⟩
    have hr8' : (Builtin.append_ #[27, 27] 27 #[.slice Ag s.got.length cg, .slice B7 nt b7]).run Try.prog w7 = .ok (.slice A8 n8 c8) W8 := by rw [← EG.out, hn8, hnt]; exact hr8
    have h8' : Has (Both { s with a := takeS s.a fr, c := s.c + 1, vw := .slice A3 ne c3, way := s.way.eraseIdx k, vg := .slice A8 n8 c8, got := s.got ++ takeL s.a fr }.hold (Both (BoxW ob kd kk dt) (BoxF fb fr))) w W8 := by rw [hn8]; exact h8
    rw [← hnt]
    have HR8 := Lib.hid hr8'
    have HOU := Lib.hid (st_outA HX.out h8')
    have HNR := Lib.hid hnr
    have HO2 := Lib.hid hon
    clear hr7 h7 hr8 hr8' h8 h8' hnr hon hn8 hnt hlg HTK3 z0 z1 z2 z3 z4 z5 z6 z7 zl
    go_wp2_with (at_builtin; refine wpList_append_eq rfl (.tmp 87) (.tmp 88) 27 27 rfl _ _ _ rfl rfl HR8.out ?_)
    refine HOU.out.mono ?_
    rintro e w9 ⟨v9, rfl, hr9, h9⟩
    obtain ⟨B9, b9, rfl, -⟩ := frow_at hr9
    obtain ⟨A11, c11, W11, hr11, h11⟩ := st_way HX.out h9 hr9 26 (by have := outF_len (takeS s.a fr) HNR.out.1.2; have := HE1.out; show (s.way.eraseIdx k).length + (outF (takeS s.a fr)).length ≤ 1000000; omega)
    obtain ⟨n11, hn11⟩ : ∃ n11, n11 = (s.way.eraseIdx k).length + (outF (takeS s.a fr)).length := ⟨_, rfl⟩
    obtain ⟨no, hno⟩ : ∃ no, no = (outF (takeS s.a fr)).length := ⟨_, rfl⟩
    have hr11' : (Builtin.append_ #[26, 26] 26 #[.slice A3 ne c3, .slice B9 no b9]).run Try.prog w9 = .ok (.slice A11 n11 c11) W11 := by rw [hn11, hno]; exact hr11
    have H11 : Hid (Has (Both { s with a := outS (takeS s.a fr), c := s.c + 1, vw := .slice A11 n11 c11, way := s.way.eraseIdx k ++ outF (takeS s.a fr), vg := .slice A8 n8 c8, got := s.got ++ takeL s.a fr }.hold (Both (BoxW ob kd kk dt) (BoxF fb fr))) w W11) := Lib.hid (by rw [hn11]; exact h11)
    rw [← hno]
    have HR11 := Lib.hid hr11'
    clear hr9 h9 hr11 hr11' h11 hn11 hno HOU HR8
    go_wp2_with (at_builtin; refine wpList_append_eq rfl (.tmp 90) (.tmp 92) 26 26 rfl _ _ _ rfl rfl HR11.out ?_)
    exact HQ.out _ _ ({ s with a := outS (takeS s.a fr), c := s.c + 1, vw := .slice A11 n11 c11, way := s.way.eraseIdx k ++ outF (takeS s.a fr), vg := .slice A8 n8 c8, got := s.got ++ takeL s.a fr }) (L) (x) (y + 1) ⟨rfl, rfl, rfl, rfl, rfl, rfl, rfl, ES.out.symm, rfl, ED.out.symm, EH.out.symm, rfl, rfl⟩ (H11.out.fst (St.hold_ok _)) (HO2.out _ _) (HONN.out _ _ _) (by have := HXY.out; omega) (hL)
theorem so_b (f : Nat → Value) (w wr : World) (s : St) (L : Int) (i x y ob : Nat) (kd kk : Int) (dt : List UInt8) (Q : Exit → Act → World → Prop) (hI : Has (Both s.hold (BoxW ob kd kk dt)) w wr) (hO : Once L s) (hN : OnceN x y s) (hxy : x + y = i) (hi : i < 150) (hL : L ≤ 20) (hf : KeepF f L s) (h12 : f 12 = .pointer (some ⟨ob, 0, none⟩)) (hQ : SwO (f 0) (f 11) (f 19) w i Q) (e1 : (kd == 1) = false) (e2 : (kd == 2) = false) (e4 : (kd == 4) = false) (e6 : (kd == 6) = false) (hcc : ((kd == 7) = false ∧ (kd == 5) = false) ∨ ((kd == 7) = true ∧ decide (L < 20) = false ∧ (kd == 5) = false) ∨ ((kd == 7) = false ∧ (kd == 5) = true ∧ decide ((s.way.length : Int) < 200) = false)) (k : Nat) (hk : k < s.way.length) (h13 : f 13 = .int .i64 (k : Int)) (ht : s.way[k].t ≠ 1) :
    Code.wp Try.prog swL Q ⟨frame f, []⟩ wr := by
  obtain ⟨⟨Aw, cw, ew⟩, ⟨As, cs, es⟩, ⟨Ag, cg, eg⟩, ⟨Ad, cd, ed⟩, ⟨Ah, ch, eh⟩⟩ := st_forms hI
  obtain ⟨_, hbx⟩ := st_other hI
  obtain ⟨o0, o1, o2, ol⟩ := hbx.cells
  clear hbx
  have hmost := hN.most (by omega)
  obtain ⟨b, p, rfl, hbl, q0, q1, q2, q3, q4, q5, q6, q7⟩ := st_at hI ew k hk
  have t0 : ((s.way.length : Int) == 0) = false := by simp; intro e; rw [e] at hk; simp at hk
  have hkI : (k : Int) < (s.way.length : Int) := by omega
  have ew1 : IntKind.i64.wrap ((k : Int) + 1) = (k : Int) + 1 := IntWalk.i64_in _ (by omega)
  have hkl : (k : Int) ≤ (s.way.length : Int) := by omega
  have hk1 : (k : Int) + 1 ≤ (s.way.length : Int) := by omega
  have hsm : (s.way.length : Int) ≤ 2000 := by omega
  have hfin := hO.fin s.way[k] (List.getElem_mem hk)
  have hon := fun (hX : Near (s.c + 1) (takeS s.b s.way[k])) v v' => hO.takeB k hk ht hX v v' (s.c + 1)
  have honn := fun v v' g => hN.takeB k hk (by exact hO.da.yx.1) v v' g
  have hlen1 : (s.way.eraseIdx k).length ≤ 2000 := by have : (s.way.eraseIdx k).length ≤ s.way.length := List.length_eraseIdx_le ..; omega
  obtain ⟨fr, hfr⟩ : ∃ fr, fr = s.way[k] := ⟨_, rfl⟩
  rw [← hfr] at q0 q1 q2 q3 q4 q5 q6 q7 hfin hon honn ht
  have t1 : (fr.t == 1) = false := by simp [ht]
  have h1 := (hI.with_ (s.hold_ok.both (holdW _ _ _ _)) (box_f wr fr)).imp fun _ h => Both.assoc h
  obtain ⟨W1, hW1⟩ : ∃ W1, W1 = wr.alloc (.cells #[.int .i64 fr.f, .int .i64 fr.t, .int .i64 fr.m, .int .i64 fr.y, .int .i64 fr.s, .int .i64 fr.a, .string (str fr.d), .bool fr.h] 34) := ⟨_, rfl⟩
  obtain ⟨fb, hfb⟩ : ∃ fb, fb = wr.heap.size := ⟨_, rfl⟩
  rw [← hW1, ← hfb] at h1
  have hX : Hold (Both (BoxW ob kd kk dt) (BoxF fb fr)) := (holdW _ _ _ _).both (holdBF _ _)
  obtain ⟨A1, c1, A2, c2, B1, b1, u1, A3, c3, u2, g1, g2, r1, r2, h6⟩ := st_cut hX h1 ew k hk (by omega) 26
  obtain ⟨nl, hnl⟩ : ∃ nl, nl = s.way.length - (k + 1) := ⟨_, rfl⟩
  obtain ⟨ne, hne⟩ : ∃ ne, ne = s.way.length - 1 := ⟨_, rfl⟩
  rw [← hnl] at g2 r2
  rw [← hne] at r2 h6
  have R1 := Lib.hid r1
  have R2 := Lib.hid r2
  obtain ⟨_, ⟨_, _, _, hbf, _⟩⟩ := st_other h6
  have hbc := hbf.cells
  have HTK := Lib.hid (st_takeB hX h6 fr hfin (by show s.c + 1 ≤ 100000000; omega))
  have HON := Lib.hid hon
  have HONN := Lib.hid honn
  have HLS : Hid (s.down.length ≤ 150) := Lib.hid (by omega)
  have HE1 := Lib.hid hlen1
  have HX := Lib.hid hX
  have HW1 := Lib.hid hW1
  have HFB := Lib.hid hfb
  have HBC := Lib.hid hbc
  clear h1 r1 r2 h6 hbf hbc hfin hon honn hlen1 hX hW1 hfb hnl hne hk hfr ht
  have h3 := hf.s3
  have h4 := hf.s4
  have h5 := hf.s5
  have h6 := hf.s6.trans ew
  have h7 := hf.s7.trans es
  have h8 := hf.s8.trans eg
  have h9 := hf.s9.trans ed
  have h10 := hf.s10.trans eh
  have HQ := Lib.hid hQ
  have HXY := Lib.hid hxy
  have EW := Lib.hid ew
  have ES := Lib.hid es
  have EG := Lib.hid eg
  have ED := Lib.hid ed
  have EH := Lib.hid eh
  have HO := Lib.hid hO
  have HN := Lib.hid hN
  clear hI hO hN hQ hf hmost ew es eg ed eh hxy
  unfold frame
  rw [h3, h4, h5, h6, h7, h8, h9, h10, h12, h13]
  clear h13 h3 h4 h5 h6 h7 h8 h9 h10 h12
  conv => arg 2; whnf
  rcases hcc with ⟨t7, t5⟩ | ⟨t7, t20, t5⟩ | ⟨t7, t5, t200⟩
  all_goals
    go_wp2_with fail
    rw [← HW1.out, ← HFB.out]
    refine wp_region_exV (by kernel_rfl) (ClsN [3, 8] (fun m W => W = w3of (W1).drew u1 u2 m))
      [[(6, none)], [(13, none)], [(69, some 0), (70, some 1)], [(71, some 2)], [(6, none)], [(13, none)], [(74, some 5)], [(73, some 4), (75, some 6)], [(72, some 3), (76, some 7)], [(77, some 8)]]
      [none, none, none, none, none, none, some 9, none, none, none, none, none, none, none, none, none, none, none, none, none, none, none, none, none, none, none, none, none, none, none, none, none, none, none, none, none, none, none, none, none, none, none, none, none, none, none, none, none, none, none, none, none, none, none, none, none, none, none, none, none, none, none, none, none, none, none, none, none, none, some 0, some 1, some 2, some 3, some 4, some 5, some 6, some 7, some 8, none, none, none, none, none, none, none, none, none, none, none, none, none, none, none, none, none, none, none, none, none, none, none, none, none, none, none, none, none, none, none, none, none, none, none, none, none, none, none, none, none, none, none, none, none, none, none, none, none, none, none, none, none, none, none, none, none, none, none, none, none, none, none, none, none, none, none, none, none, none, none, none, none, none, none, none, none, none, none, none, none, none, none, none, none, none, none, none, none, none, none, none, none, none, none, none, none, none, none, none, none, none, none, none, none, none, none, none, none, none, none, none, none, none, none, none, none, none, none, none, none, none, none, none, none, none, none, none, none, none, none, none, none, none, none, none, none, none, none, none, none, none, none, none, none, none, none, none, none, none, none, none, none, none, none, none, none, none, none, none, none, none, none, none, none, none, none, none, none, none, none, none, none, none, none, none, none, none, none, none, none, none, none, none, none, none, none, none, none, none, none, none, none, none, none, none, none, none, none, none, none, none, none, none, none, none, none, none, none, none, none, none, none, none, none, none, none, none, none, none, none, none, none, none, none, none, none, none, none, none, none, none] (by kernel_rfl) (by kernel_rfl) (ClsN.start rfl) ?_
    iterate 3
      refine exV_pure (c := ?_) (fun _ _ _ h => h.pure (by decide)) ?_ ?_
      rotate_left
      · intro a' d' W hR hF
        simp only [FactsV, List.nil_append, List.cons_append, List.getD_cons_zero, List.getD_cons_succ, exists_eq_left, and_true, true_and, List.getElem?_toArray, List.getElem?_cons_zero, List.getElem?_cons_succ] at hF
        refine ⟨?_, ?_⟩
        · simp [Region.wanted, yielded, hF]
        · go_simp
          with_reducible rfl
    refine exV_step (fun v => v = .slice B1 k b1) (fun a' d' W hd hR hF => ?_) ?_
    · skip
      simp only [FactsV, List.nil_append, List.cons_append, List.getD_cons_zero, List.getD_cons_succ, exists_eq_left, and_true, true_and, List.getElem?_toArray, List.getElem?_cons_zero, List.getElem?_cons_succ] at hF
      have h0 : W = (W1).drew := hR.here (t := 0) rfl hd (fun _ _ h => absurd h (by omega))
      exact ⟨by simp [Region.wanted, yielded, hF], .slice B1 k b1, u1, run_append_op (.const (.slice none 0 0)) (.tmp 71) _ _ rfl _ _ rfl (by simp [Act.eval, hF]) (h0 ▸ R1.out), rfl, hR.step (t := 0) (by decide) rfl hd (fun _ _ h => absurd h (by omega)) rfl⟩
    iterate 4
      refine exV_pure (c := ?_) (fun _ _ _ h => h.pure (by decide)) ?_ ?_
      rotate_left
      · intro a' d' W hR hF
        simp only [FactsV, List.nil_append, List.cons_append, List.getD_cons_zero, List.getD_cons_succ, exists_eq_left, and_true, true_and, List.getElem?_toArray, List.getElem?_cons_zero, List.getElem?_cons_succ] at hF
        refine ⟨?_, ?_⟩
        · simp [Region.wanted, yielded, hF]
        · go_simp
          with_reducible rfl
    refine exV_step (fun v => v = .slice A3 ne c3) (fun a' d' W hd hR hF => ?_) ?_
    · skip
      simp only [FactsV, List.nil_append, List.cons_append, List.getD_cons_zero, List.getD_cons_succ, exists_eq_left, and_true, true_and, List.getElem?_toArray, List.getElem?_cons_zero, List.getElem?_cons_succ] at hF
      have hp : ∀ j, ([3, 8] : List Nat)[1 - 1]? = some j → 0 < 1 → (d' j).isSome = true := fun j hj _ => by cases hj; rw [hF.1.2]; rfl
      have h1 : W = u1 := hR.here (t := 1) rfl hd hp
      exact ⟨by simp [Region.wanted, yielded, hF], .slice A3 ne c3, u2, run_append_op (.tmp 72) (.tmp 76) _ _ rfl _ _ (by simp [Act.eval, hF]) (by simp [Act.eval, hF]) (h1 ▸ R2.out), rfl, hR.step (t := 1) (by decide) rfl hd hp rfl⟩
    iterate 1
      refine exV_pure (c := ?_) (fun _ _ _ h => h.pure (by decide)) ?_ ?_
      rotate_left
      · intro a' d' W hR hF
        simp only [FactsV, List.nil_append, List.cons_append, List.getD_cons_zero, List.getD_cons_succ, exists_eq_left, and_true, true_and, List.getElem?_toArray, List.getElem?_cons_zero, List.getElem?_cons_succ] at hF
        refine ⟨?_, ?_⟩
        · simp [Region.wanted, yielded, hF]
        · go_simp
          with_reducible rfl
    show ∀ d W, _ → _ → _
    intro d w9 hA2 hR2
    simp only [FinV, List.nil_append, List.cons_append, List.getD_cons_zero, List.getD_cons_succ, forall_eq, forall_const, true_implies, forall_exists_index, and_imp, Nat.reduceAdd, Array.getD_eq_getD_getElem?, List.getElem?_toArray, List.getElem?_cons_zero, List.getElem?_cons_succ, Option.getD_some]
    have hw9 : w9 = u2 := hR2.done (t := 1) (k := 8) rfl rfl (hA2 8 (by decide))
    subst hw9
    clear hR2 hA2
    iterate 10 intro _
    obtain ⟨z0, z1, z2, z3, z4, z5, z6, z7, zl⟩ := HBC.out
    clear o0 o1 o2 ol q0 q1 q2 q3 q4 q5 q6 q7 g1 g2 R1 R2 hbl
    have HTK2 := HTK.out
    unfold aggF at HTK2
    have HTK3 := Lib.hid HTK2
    clear HTK2 HTK
    go_wp2_with fail
    refine HTK3.out.mono ?_
    rintro e w7 ⟨v7, rfl, hr7, h7⟩
    have hnr := st_near h7
    have hon := HON.out hnr.2.1
    obtain ⟨B7, b7, rfl, -, -, -, -⟩ := hr7.form
    have hlg : s.heard.length + (takeL s.b fr).length ≤ 150 := by
      have e : s.heard ++ takeL s.b fr = s.down.take (takeS s.b fr).n := (hon (.slice none 0 0) (.slice none 0 0)).heard
      have e2 : (s.heard ++ takeL s.b fr).length ≤ s.down.length := by rw [e, List.length_take]; exact Nat.min_le_right _ _
      rw [List.length_append] at e2
      have := HLS.out
      omega
    obtain ⟨A8, c8, W8, hr8, h8⟩ := st_heard HX.out h7 hr7 27 (by show s.heard.length + (takeL s.b fr).length ≤ 1000000; omega)
    obtain ⟨n8, hn8⟩ : ∃ n8, n8 = s.heard.length + (takeL s.b fr).length := ⟨_, rfl⟩
    obtain ⟨nt, hnt⟩ : ∃ nt, nt = (takeL s.b fr).length := ⟨_, rfl⟩
    have hr8' : (Builtin.append_ #[27, 27] 27 #[.slice Ah s.heard.length ch, .slice B7 nt b7]).run Try.prog w7 = .ok (.slice A8 n8 c8) W8 := by rw [← EH.out, hn8, hnt]; exact hr8
    have h8' : Has (Both { s with b := takeS s.b fr, c := s.c + 1, vw := .slice A3 ne c3, way := s.way.eraseIdx k, vh := .slice A8 n8 c8, heard := s.heard ++ takeL s.b fr }.hold (Both (BoxW ob kd kk dt) (BoxF fb fr))) w W8 := by rw [hn8]; exact h8
    rw [← hnt]
    have HR8 := Lib.hid hr8'
    have HOU := Lib.hid (st_outB HX.out h8')
    have HNR := Lib.hid hnr
    have HO2 := Lib.hid hon
    clear hr7 h7 hr8 hr8' h8 h8' hnr hon hn8 hnt hlg HTK3 z0 z1 z2 z3 z4 z5 z6 z7 zl
    go_wp2_with (at_builtin; refine wpList_append_eq rfl (.tmp 100) (.tmp 101) 27 27 rfl _ _ _ rfl rfl HR8.out ?_)
    refine HOU.out.mono ?_
    rintro e w9 ⟨v9, rfl, hr9, h9⟩
    obtain ⟨B9, b9, rfl, -⟩ := frow_at hr9
    obtain ⟨A11, c11, W11, hr11, h11⟩ := st_way HX.out h9 hr9 26 (by have := outF_len (takeS s.b fr) HNR.out.2.2; have := HE1.out; show (s.way.eraseIdx k).length + (outF (takeS s.b fr)).length ≤ 1000000; omega)
    obtain ⟨n11, hn11⟩ : ∃ n11, n11 = (s.way.eraseIdx k).length + (outF (takeS s.b fr)).length := ⟨_, rfl⟩
    obtain ⟨no, hno⟩ : ∃ no, no = (outF (takeS s.b fr)).length := ⟨_, rfl⟩
    have hr11' : (Builtin.append_ #[26, 26] 26 #[.slice A3 ne c3, .slice B9 no b9]).run Try.prog w9 = .ok (.slice A11 n11 c11) W11 := by rw [hn11, hno]; exact hr11
    have H11 : Hid (Has (Both { s with b := outS (takeS s.b fr), c := s.c + 1, vw := .slice A11 n11 c11, way := s.way.eraseIdx k ++ outF (takeS s.b fr), vh := .slice A8 n8 c8, heard := s.heard ++ takeL s.b fr }.hold (Both (BoxW ob kd kk dt) (BoxF fb fr))) w W11) := Lib.hid (by rw [hn11]; exact h11)
    rw [← hno]
    have HR11 := Lib.hid hr11'
    clear hr9 h9 hr11 hr11' h11 hn11 hno HOU HR8
    go_wp2_with (at_builtin; refine wpList_append_eq rfl (.tmp 103) (.tmp 105) 26 26 rfl _ _ _ rfl rfl HR11.out ?_)
    exact HQ.out _ _ ({ s with b := outS (takeS s.b fr), c := s.c + 1, vw := .slice A11 n11 c11, way := s.way.eraseIdx k ++ outF (takeS s.b fr), vh := .slice A8 n8 c8, heard := s.heard ++ takeL s.b fr }) (L) (x) (y + 1) ⟨rfl, rfl, rfl, rfl, rfl, rfl, rfl, ES.out.symm, EG.out.symm, ED.out.symm, rfl, rfl, rfl⟩ (H11.out.fst (St.hold_ok _)) (HO2.out _ _) (HONN.out _ _ _) (by have := HXY.out; omega) (hL)
end Go.Proofs.Ytbpcbdlmkoajdaa
