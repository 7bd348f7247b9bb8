/- SessLives: its switch: both tick, a frame is doubled, one is lost. -/
import Derived.Test.YtbpcbdlmkoajdaaSmwB
namespace Go.Proofs.Ytbpcbdlmkoajdaa
open Go Go.RowKit SesP
set_option maxRecDepth 1000000
set_option maxHeartbeats 16000000
set_option linter.unusedSimpArgs false

theorem lv_6 (f : Nat → Value) (w wr : World) (s : St) (vd : Value) (R : Rows) (i x y ob : Nat) (kd kk : Int) (d : List UInt8) (Q : Exit → Act → World → Prop) (hI : Has (Both s.hold (Both (RwD vd R) (BoxW ob kd kk d))) w wr) (hL : LvI s R x y) (hxy : x + y = i) (hi : i < 120) (hf : KeepG f vd s) (h11 : f 11 = .pointer (some ⟨ob, 0, none⟩)) (hQ : SwV (f 0) (f 10) (f 17) w i Q) (e1 : (kd == 1) = false) (e2 : (kd == 2) = false) (e7 : (kd == 7) = false ∨ decide (s.b.m < 20) = false) (e6 : (kd == 6) = true ∨ s.way = []) :
    Code.wp Try.prog swL Q ⟨frame f, []⟩ wr := by
  have hB : Hold (BoxW ob kd kk d) := holdW _ _ _ _
  have hX : Hold (Both (RwD vd R) (BoxW ob kd kk d)) := (holdRwD _ _).both hB
  obtain ⟨Aw, cw, ew⟩ := st_form hI
  obtain ⟨_, ⟨_, _, hrd, hbx, _⟩⟩ := st_other hI
  obtain ⟨o0, o1, o2, ol⟩ := hbx.cells
  clear hbx
  have hmost := hL.on.most (by omega)
  have hlen := hL.len
  have hnr := st_near hI
  have HTK := Lib.hid (st_tickA hX hI)
  have HNR := Lib.hid hnr
  have HW2 : Hid (s.way.length ≤ 2000) := Lib.hid hmost.2.2.2.2
  have hc7 : (kd == 7) = false ∨ ((kd == 7) = true ∧ decide (s.b.m < 20) = false) := by
    cases h : (kd == 7)
    · exact .inl rfl
    · exact .inr ⟨rfl, e7.resolve_left (by rw [h]; decide)⟩
  have hc6 : (kd == 6) = true ∨ ((kd == 6) = false ∧ ((s.way.length : Int) == 0) = true) := by
    cases h : (kd == 6)
    · exact .inr ⟨rfl, by rw [e6.resolve_left (by rw [h]; decide)]; rfl⟩
    · exact .inl rfl
  clear e7 e6 hnr
  have h3 := hf.s3
  have h4 := hf.s4
  have h5 := hf.s5
  have h6 := hf.s6.trans ew
  have h7 := hf.s7
  have h8 := hf.s8
  have h9 := hf.s9
  have HQ := Lib.hid hQ
  have HXY := Lib.hid hxy
  have EW := Lib.hid ew
  have HL := Lib.hid hL
  have HB := Lib.hid hB
  have HX := Lib.hid hX
  clear hI hL hQ hf hmost ew hxy hrd hB hX hlen
  unfold frame
  rw [h3, h4, h5, h6, h7, h8, h9, h11]
  clear h3 h4 h5 h6 h7 h8 h9 h11
  conv => arg 2; whnf
  rcases hc7 with t7 | ⟨t7, t20⟩ <;> rcases hc6 with t6 | ⟨t6, t0⟩
  all_goals
    go_wp2_with fail
    refine HTK.out.mono ?_
    rintro e w5 ⟨v5, rfl, hr5, h5⟩
    obtain ⟨B5, b5, rfl, -⟩ := frow_at hr5
    obtain ⟨A6, c6, W6, hr6, h6⟩ := st_way (s := { s with a := tickS s.a }) HX.out h5 hr5 26 (by have := HW2.out; have := tickF_len s.a HNR.out.1.2; show s.way.length + (tickF s.a).length ≤ 1000000; omega)
    have hr6' : (Builtin.append_ #[26, 26] 26 #[.slice Aw s.way.length cw, .slice B5 (tickF s.a).length b5]).run Try.prog w5 = .ok (.slice A6 (s.way.length + (tickF s.a).length) c6) W6 := by rw [← EW.out]; exact hr6
    obtain ⟨n6, hn6⟩ : ∃ n6, n6 = s.way.length + (tickF s.a).length := ⟨_, rfl⟩
    have h6' : Has (Both { s with a := tickS s.a, vw := .slice A6 n6 c6, way := s.way ++ tickF s.a }.hold (Both (RwD vd R) (BoxW ob kd kk d))) w W6 := by rw [hn6]; exact h6
    rw [← hn6] at hr6'
    have HR6 := Lib.hid hr6'
    have HTB := Lib.hid (st_tickB HX.out h6')
    obtain ⟨nf, hnf⟩ : ∃ nf, nf = (tickF s.a).length := ⟨_, rfl⟩
    rw [← hnf] at HR6 ⊢
    clear hr5 h5 hr6 hr6' h6 h6' HTK o0 o1 o2 ol hn6 hnf
    go_wp2_with (at_builtin; refine wpList_append_eq rfl (.tmp 198) (.tmp 200) 26 26 rfl _ _ _ rfl rfl HR6.out ?_)
    refine HTB.out.mono ?_
    rintro e w7 ⟨v7, rfl, hr7, h7⟩
    obtain ⟨B7, b7, rfl, -⟩ := frow_at hr7
    obtain ⟨A8, c8, W8, hr8, h8⟩ := st_way (s := { s with a := tickS s.a, vw := .slice A6 n6 c6, way := s.way ++ tickF s.a, b := tickS s.b }) HX.out h7 hr7 26 (by have := HW2.out; have := tickF_len s.a HNR.out.1.2; have := tickF_len s.b HNR.out.2.2; show (s.way ++ tickF s.a).length + (tickF s.b).length ≤ 1000000; rw [List.length_append]; omega)
    obtain ⟨n8, hn8⟩ : ∃ n8, n8 = (s.way ++ tickF s.a).length + (tickF s.b).length := ⟨_, rfl⟩
    have hr8' : (Builtin.append_ #[26, 26] 26 #[.slice A6 n6 c6, .slice B7 (tickF s.b).length b7]).run Try.prog w7 = .ok (.slice A8 n8 c8) W8 := by rw [hn8]; exact hr8
    have H8 : Hid (Has (Both { s with a := tickS s.a, b := tickS s.b, vw := .slice A8 n8 c8, way := s.way ++ tickF s.a ++ tickF s.b }.hold (Both (RwD vd R) (BoxW ob kd kk d))) w W8) := Lib.hid (by rw [hn8]; exact h8)
    obtain ⟨nb, hnb⟩ : ∃ nb, nb = (tickF s.b).length := ⟨_, rfl⟩
    rw [← hnb] at hr8' ⊢
    have HR8 := Lib.hid hr8'
    clear hr7 h7 hr8 hr8' h8 HTB HR6 hn8 hnb
    go_wp2_with (at_builtin; refine wpList_append_eq rfl (.tmp 202) (.tmp 204) 26 26 rfl _ _ _ rfl rfl HR8.out ?_)
    refine (HQ.out _ _ ({ s with a := tickS s.a, b := tickS s.b, vw := .slice A8 n8 c8, way := s.way ++ tickF s.a ++ tickF s.b }) (vd) (R) (x) (y + 1) ?_ (lh_drop (holdRwD _ _) H8.out) ⟨((HL.out.lvs.tickA HNR.out.1.1 HNR.out.1.2 (.slice A8 n8 c8)).tickB (s := { s with a := tickS s.a, vw := .slice A8 n8 c8, way := s.way ++ tickF s.a }) HNR.out.2.1 _), (HL.out.on.ticks HL.out.lvs.oa HL.out.lvs.ob _), HL.out.life, HL.out.lens⟩ (by have := HXY.out; omega)).1; exact ⟨rfl, rfl, rfl, rfl, rfl, rfl, rfl, rfl, rfl, rfl, rfl, rfl⟩
theorem lv_5 (f : Nat → Value) (w wr : World) (s : St) (vd : Value) (R : Rows) (i x y ob : Nat) (kk : Int) (d : List UInt8) (Q : Exit → Act → World → Prop) (hI : Has (Both s.hold (Both (RwD vd R) (BoxW ob 5 kk d))) w wr) (hL : LvI s R x y) (hxy : x + y = i) (hi : i < 120) (hf : KeepG f vd s) (h11 : f 11 = .pointer (some ⟨ob, 0, none⟩)) (hQ : SwV (f 0) (f 10) (f 17) w i Q) (k : Nat) (hk : k < s.way.length) (h12 : f 12 = .int .i64 (k : Int)) (h200 : s.way.length < 200) :
    Code.wp Try.prog swL Q ⟨frame f, []⟩ wr := by
  have hB : Hold (BoxW ob 5 kk d) := holdW _ _ _ _
  have hX : Hold (Both (RwD vd R) (BoxW ob 5 kk d)) := (holdRwD _ _).both hB
  obtain ⟨Aw, cw, ew⟩ := st_form hI
  obtain ⟨_, ⟨_, _, hrd, hbx, _⟩⟩ := st_other hI
  obtain ⟨o0, o1, o2, ol⟩ := hbx.cells
  clear hbx
  have hmost := hL.on.most (by omega)
  have hlen := hL.len
  obtain ⟨b, p, rfl, hbl, q0, q1, q2, q3, q4, q5, q6, q7⟩ := st_at hI ew k hk
  have t0 : ((s.way.length : Int) == 0) = false := by simp; intro e; rw [e] at hk; simp at hk
  have t200 : decide ((s.way.length : Int) < 200) = true := decide_eq_true (by omega)
  have hkI : (k : Int) < (s.way.length : Int) := by omega
  obtain ⟨A5, c5, W5, hr5, h6⟩ := st_way1 hX hI s.way[k] 26 (by omega)
  have hr5' : (Builtin.append_ #[26, 26] 26 #[.slice (some ⟨b, p, none⟩) s.way.length cw, .slice (some ⟨wr.heap.size, 0, none⟩) 1 1]).run Try.prog (wr.alloc (.cells #[.int .i64 s.way[k].f, .int .i64 s.way[k].t, .int .i64 s.way[k].m, .int .i64 s.way[k].y, .int .i64 s.way[k].s, .int .i64 s.way[k].a, .string (str s.way[k].d), .bool s.way[k].h] 34)) = .ok (.slice A5 (s.way.length + 1) c5) W5 := by rw [← ew]; exact hr5
  have hon := hL.lvs.sub (.slice A5 (s.way.length + 1) c5) (l := s.way ++ [s.way[k]]) (fun g hg => (List.mem_append.1 hg).elim id fun e => by rw [List.mem_singleton.1 e]; exact List.getElem_mem hk)
  obtain ⟨fr, hfr⟩ : ∃ fr, fr = s.way[k] := ⟨_, rfl⟩
  rw [← hfr] at q0 q1 q2 q3 q4 q5 q6 q7 hr5' h6 hon
  have HR5 := Lib.hid hr5'
  have H6 := Lib.hid h6
  have HON := Lib.hid hon
  have hsm : (s.way.length : Int) ≤ 200 := by omega
  clear hr5 hr5' h6 hon hfr hk h200
  have h3 := hf.s3
  have h4 := hf.s4
  have h5 := hf.s5
  have h6 := hf.s6.trans ew
  have h7 := hf.s7
  have h8 := hf.s8
  have h9 := hf.s9
  have HQ := Lib.hid hQ
  have HXY := Lib.hid hxy
  have EW := Lib.hid ew
  have HL := Lib.hid hL
  have HB := Lib.hid hB
  have HX := Lib.hid hX
  clear hI hL hQ hf hmost ew hxy hrd hB hX hlen
  unfold frame
  rw [h3, h4, h5, h6, h7, h8, h9, h11, h12]
  clear h12 h3 h4 h5 h6 h7 h8 h9 h11
  conv => arg 2; whnf
  go_wp2_with (at_builtin; refine wpList_append_eq rfl (.tmp 215) (.tmp 220) 26 26 rfl _ _ _ rfl rfl HR5.out ?_)
  refine (HQ.out _ _ ({ s with vw := .slice A5 (s.way.length + 1) c5, way := s.way ++ [fr] }) (vd) (R) (x) (y + 1) ?_ (lh_drop (holdRwD _ _) H6.out) ⟨HON.out, HL.out.on.dup fr _, HL.out.life, HL.out.lens⟩ (by have := HXY.out; omega)).1; exact ⟨rfl, rfl, rfl, rfl, rfl, rfl, rfl, rfl, rfl, rfl, rfl, rfl⟩
theorem lv_4 (f : Nat → Value) (w wr : World) (s : St) (vd : Value) (R : Rows) (i x y ob : Nat) (kk : Int) (d : List UInt8) (Q : Exit → Act → World → Prop) (hI : Has (Both s.hold (Both (RwD vd R) (BoxW ob 4 kk d))) w wr) (hL : LvI s R x y) (hxy : x + y = i) (hi : i < 120) (hf : KeepG f vd s) (h11 : f 11 = .pointer (some ⟨ob, 0, none⟩)) (hQ : SwV (f 0) (f 10) (f 17) w i Q) (k : Nat) (hk : k < s.way.length) (h12 : f 12 = .int .i64 (k : Int)) :
    Code.wp Try.prog swL Q ⟨frame f, []⟩ wr := by
  have hB : Hold (BoxW ob 4 kk d) := holdW _ _ _ _
  have hX : Hold (Both (RwD vd R) (BoxW ob 4 kk d)) := (holdRwD _ _).both hB
  obtain ⟨Aw, cw, ew⟩ := st_form hI
  obtain ⟨_, ⟨_, _, hrd, hbx, _⟩⟩ := st_other hI
  obtain ⟨o0, o1, o2, ol⟩ := hbx.cells
  clear hbx
  have hmost := hL.on.most (by omega)
  have hlen := hL.len
  have t0 : ((s.way.length : Int) == 0) = false := by simp; intro e; rw [e] at hk; simp at hk
  have hkI : (k : Int) < (s.way.length : Int) := by omega
  obtain ⟨A1, c1, A2, c2, B1, b1, u1, A3, c3, u2, g1, g2, r1, r2, h6⟩ := st_cut hX hI ew k hk (by omega) 26
  have ew1 : IntKind.i64.wrap ((k : Int) + 1) = (k : Int) + 1 := IntWalk.i64_in _ (by omega)
  have hkl : (k : Int) ≤ (s.way.length : Int) := by omega
  have hk1 : (k : Int) + 1 ≤ (s.way.length : Int) := by omega
  have hsm : (s.way.length : Int) ≤ 2000 := by omega
  have hon := hL.lvs.sub (.slice A3 (s.way.length - 1) c3) (l := s.way.eraseIdx k) (fun g hg => List.mem_of_mem_eraseIdx hg)
  have HON := Lib.hid hon
  have R1 := Lib.hid r1
  have R2 := Lib.hid r2
  obtain ⟨nl, hnl⟩ : ∃ nl, nl = s.way.length - (k + 1) := ⟨_, rfl⟩
  obtain ⟨ne, hne⟩ : ∃ ne, ne = s.way.length - 1 := ⟨_, rfl⟩
  rw [← hnl] at g2 R2
  rw [← hne] at R2 HON h6
  have H6 := Lib.hid h6
  clear r1 r2 hon h6 hk hnl hne
  have h3 := hf.s3
  have h4 := hf.s4
  have h5 := hf.s5
  have h6 := hf.s6.trans ew
  have h7 := hf.s7
  have h8 := hf.s8
  have h9 := hf.s9
  have HQ := Lib.hid hQ
  have HXY := Lib.hid hxy
  have EW := Lib.hid ew
  have HL := Lib.hid hL
  have HB := Lib.hid hB
  have HX := Lib.hid hX
  clear hI hL hQ hf hmost ew hxy hrd hB hX hlen
  unfold frame
  rw [h3, h4, h5, h6, h7, h8, h9, h11, h12]
  clear h12 h3 h4 h5 h6 h7 h8 h9 h11
  conv => arg 2; whnf
  go_wp2_with fail
  refine wp_region_exV (by kernel_rfl) (ClsN [3, 8] (fun m W => W = w3of (wr).drew u1 u2 m))
    [[(6, none)], [(12, none)], [(226, some 0), (227, some 1)], [(228, some 2)], [(6, none)], [(12, none)], [(231, some 5)], [(230, some 4), (232, some 6)], [(229, some 3), (233, some 7)], [(234, some 8)]]
    [none, none, none, none, none, none, some 9, none, none, none, none, none, none, none, none, none, none, none, none, none, none, none, none, none, none, none, none, none, none, none, none, none, none, none, none, none, none, none, none, none, none, none, none, none, none, none, none, none, none, none, none, none, none, none, none, none, none, none, none, none, none, none, none, none, none, none, none, none, none, none, none, none, none, none, none, none, none, none, none, none, none, none, none, none, none, none, none, none, none, none, none, none, none, none, none, none, none, none, none, none, none, none, none, none, none, none, none, none, none, none, none, none, none, none, none, none, none, none, none, none, none, none, none, none, none, none, none, none, none, none, none, none, none, none, none, none, none, none, none, none, none, none, none, none, none, none, none, none, none, none, none, none, none, none, none, none, none, none, none, none, none, none, none, none, none, none, none, none, none, none, none, none, none, none, none, none, none, none, none, none, none, none, none, none, none, none, none, none, none, none, none, none, none, none, none, none, none, none, none, none, none, none, none, none, none, none, none, none, none, none, none, none, none, none, none, none, none, none, none, none, none, none, none, none, none, none, some 0, some 1, some 2, some 3, some 4, some 5, some 6, some 7, some 8, none, none, none, none, none, none, none, none, none, none, none, none, none, none, none, none, none, none, none, none, none, none, none, none, none, none, none, none, none, none, none, none, none, none, none, none, none, none, none, none, none, none, none, none, none, none, none, none, none, none, none, none, none, none, none, none, none, none, none, none, none, none, none, none, none, none, none, none, none, none, none, none, none, none, none, none, none, none, none, none, none, none, none, none, none, none, none, none, none, none, none, none, none, none, none, none, none, none, none, none, none, none, none, none, none, none, none, none] (by kernel_rfl) (by kernel_rfl) (ClsN.start rfl) ?_
  iterate 3
    refine exV_pure (c := ?_) (fun _ _ _ h => h.pure (by decide)) ?_ ?_
    rotate_left
    · intro a' d' W hR hF
      simp only [FactsV, List.nil_append, List.cons_append, List.getD_cons_zero, List.getD_cons_succ, exists_eq_left, and_true, true_and, List.getElem?_toArray, List.getElem?_cons_zero, List.getElem?_cons_succ] at hF
      refine ⟨?_, ?_⟩
      · simp [Region.wanted, yielded, hF]
      · go_simp
        with_reducible rfl
  refine exV_step (fun v => v = .slice B1 k b1) (fun a' d' W hd hR hF => ?_) ?_
  · skip
    simp only [FactsV, List.nil_append, List.cons_append, List.getD_cons_zero, List.getD_cons_succ, exists_eq_left, and_true, true_and, List.getElem?_toArray, List.getElem?_cons_zero, List.getElem?_cons_succ] at hF
    have h0 : W = (wr).drew := hR.here (t := 0) rfl hd (fun _ _ h => absurd h (by omega))
    exact ⟨by simp [Region.wanted, yielded, hF], .slice B1 k b1, u1, run_append_op (.const (.slice none 0 0)) (.tmp 228) _ _ rfl _ _ rfl (by simp [Act.eval, hF]) (h0 ▸ R1.out), rfl, hR.step (t := 0) (by decide) rfl hd (fun _ _ h => absurd h (by omega)) rfl⟩
  iterate 4
    refine exV_pure (c := ?_) (fun _ _ _ h => h.pure (by decide)) ?_ ?_
    rotate_left
    · intro a' d' W hR hF
      simp only [FactsV, List.nil_append, List.cons_append, List.getD_cons_zero, List.getD_cons_succ, exists_eq_left, and_true, true_and, List.getElem?_toArray, List.getElem?_cons_zero, List.getElem?_cons_succ] at hF
      refine ⟨?_, ?_⟩
      · simp [Region.wanted, yielded, hF]
      · go_simp
        with_reducible rfl
  refine exV_step (fun v => v = .slice A3 ne c3) (fun a' d' W hd hR hF => ?_) ?_
  · skip
    simp only [FactsV, List.nil_append, List.cons_append, List.getD_cons_zero, List.getD_cons_succ, exists_eq_left, and_true, true_and, List.getElem?_toArray, List.getElem?_cons_zero, List.getElem?_cons_succ] at hF
    have hp : ∀ j, ([3, 8] : List Nat)[1 - 1]? = some j → 0 < 1 → (d' j).isSome = true := fun j hj _ => by cases hj; rw [hF.1.2]; rfl
    have h1 : W = u1 := hR.here (t := 1) rfl hd hp
    exact ⟨by simp [Region.wanted, yielded, hF], .slice A3 ne c3, u2, run_append_op (.tmp 229) (.tmp 233) _ _ rfl _ _ (by simp [Act.eval, hF]) (by simp [Act.eval, hF]) (h1 ▸ R2.out), rfl, hR.step (t := 1) (by decide) rfl hd hp rfl⟩
  iterate 1
    refine exV_pure (c := ?_) (fun _ _ _ h => h.pure (by decide)) ?_ ?_
    rotate_left
    · intro a' d' W hR hF
      simp only [FactsV, List.nil_append, List.cons_append, List.getD_cons_zero, List.getD_cons_succ, exists_eq_left, and_true, true_and, List.getElem?_toArray, List.getElem?_cons_zero, List.getElem?_cons_succ] at hF
      refine ⟨?_, ?_⟩
      · simp [Region.wanted, yielded, hF]
      · go_simp
        with_reducible rfl
  show ∀ d W, _ → _ → _
  intro d w9 hA2 hR2
  simp only [FinV, List.nil_append, List.cons_append, List.getD_cons_zero, List.getD_cons_succ, forall_eq, forall_const, true_implies, forall_exists_index, and_imp, Nat.reduceAdd, Array.getD_eq_getD_getElem?, List.getElem?_toArray, List.getElem?_cons_zero, List.getElem?_cons_succ, Option.getD_some]
  have hw9 : w9 = u2 := hR2.done (t := 1) (k := 8) rfl rfl (hA2 8 (by decide))
  subst hw9
  clear hR2 hA2
  iterate 10 intro _
  go_wp2_with fail
  refine (HQ.out _ _ ({ s with vw := .slice A3 ne c3, way := s.way.eraseIdx k }) (vd) (R) (x) (y + 1) ?_ (lh_drop (holdRwD _ _) H6.out) ⟨HON.out, HL.out.on.drop k _, HL.out.life, HL.out.lens⟩ (by have := HXY.out; omega)).1; exact ⟨rfl, rfl, rfl, rfl, rfl, rfl, rfl, rfl, rfl, rfl, rfl, rfl⟩
end Go.Proofs.Ytbpcbdlmkoajdaa
