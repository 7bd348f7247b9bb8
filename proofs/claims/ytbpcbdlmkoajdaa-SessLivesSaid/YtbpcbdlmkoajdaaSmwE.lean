/- SessLives: its switch: a frame comes. -/
import Derived.Test.YtbpcbdlmkoajdaaSmwC
import Derived.Test.YtbpcbdlmkoajdaaSmwD
namespace Go.Proofs.Ytbpcbdlmkoajdaa
open Go Go.RowKit SesP
set_option maxRecDepth 1000000
set_option maxHeartbeats 32000000
set_option linter.unusedSimpArgs false

section
variable {s : St} {R : Rows} {x y : Nat}
theorem LvI.takeB (h : LvI s R x y) (k : Nat) (hk : k < s.way.length) (ht : s.way[k].t = 2) (hN : Near (s.c + 1) (takeS s.b s.way[k])) (v : Value) : LvI { s with b := outS (takeS s.b s.way[k]), c := s.c + 1, vw := v, way := s.way.eraseIdx k ++ outF (takeS s.b s.way[k]) } R x (y + 1) ∧ (takeS s.b s.way[k]).m = s.b.m := by
  obtain ⟨h1, h2, h3⟩ := h.lvs.takeB k hk ht hN v (s.c + 1)
  have hy : 0 ≤ s.b.y := by
    have h1 := h.lvs.d.xy
    have h2 := h.lvs.am
    omega
  refine ⟨⟨h1, h.on.takeB k hk hy v s.vh s.heard, ?_, h.lens⟩, h2⟩
  show (takeS s.b s.way[k]).m ≤ 20
  rw [h2]
  exact h.life
theorem LvI.takeA (h : LvI s R x y) (k : Nat) (hk : k < s.way.length) (ht : s.way[k].t ≠ 2) (hN : Near (s.c + 1) (takeS s.a s.way[k])) (hl : s.a.W.length ≤ 64) (v : Value) : LvI { s with a := outS (takeS s.a s.way[k]), c := s.c + 1, vw := v, way := s.way.eraseIdx k ++ outF (takeS s.a s.way[k]) } R x (y + 1) ∧
    ToldA ((R.map Prod.snd).getD (takeS s.a s.way[k]).y.toNat []) (takeL s.a s.way[k]) (if s.a.y < (takeS s.a s.way[k]).y then 0 else s.a.n) (takeS s.a s.way[k]).n ∧ (takeL s.a s.way[k] ≠ [] → s.way[k].m = (takeS s.a s.way[k]).y) ∧ s.a.y ≤ (takeS s.a s.way[k]).y ∧ 0 ≤ s.a.y ∧ (takeS s.a s.way[k]).y ≤ s.b.m := by
  obtain ⟨h1, h2, h3, h4, h5, h6⟩ := h.lvs.takeA k hk ht hN hl v (s.c + 1)
  exact ⟨⟨h1, h.on.takeA k hk h5 v s.vg s.got, h.life, h.lens⟩, h2, h3, h4, h5, h6⟩
end
/-- What a loop over what was told reads. -/
theorem reads_of {s : St} {R : Rows} {B : (Nat → Prop) → World → Prop} {Ad Am : Option Addr} {nd cd nm cm : Nat} {m : List (List UInt8)} {w W : World} (h : Has (Both s.hold (Both (Both (RwD (.slice Ad nd cd) R) B) (RwT (.slice Am nm cm) m))) w W) (ya base n' : Nat) (hya : ya < R.length) (ht : ToldA ((R.map Prod.snd).getD ya []) m base n') :
    nd = R.length ∧ nm = m.length ∧ base + m.length = n' ∧ n' ≤ R[ya].2.length ∧ ∀ j, j < m.length → ∃ b o b2 o2 c2 bm om S, Ad = some ⟨b, o, none⟩ ∧ Am = some ⟨bm, om, none⟩ ∧ base + j < R[ya].2.length ∧ W.cell? ⟨b, o + ya, none⟩ = some (.slice (some ⟨b2, o2, none⟩) R[ya].2.length c2) ∧ W.cell? ⟨b2, o2 + (base + j), none⟩ = some (.string S) ∧ W.cell? ⟨bm, om + j, none⟩ = some (.string S) ∧ b < W.heap.size ∧ b2 < W.heap.size ∧ bm < W.heap.size := by
  obtain ⟨_, ⟨_, _, ⟨_, _, hrd, _⟩, hrm, _⟩⟩ := st_other h
  obtain ⟨A1, c1, e1, hd⟩ := rwD_at hrd
  obtain ⟨A2, c2, e2, hm⟩ := rwT_at hrm
  simp only [Value.slice.injEq] at e1 e2
  obtain ⟨rfl, rfl, rfl⟩ := e1
  obtain ⟨rfl, rfl, rfl⟩ := e2
  have hl : (R.map Prod.snd).getD ya [] = R[ya].2 := by simp [List.getD_eq_getElem?_getD, hya]
  rw [hl] at ht
  refine ⟨rfl, rfl, ht.all, ht.le, fun j hj => ?_⟩
  obtain ⟨b, o, rfl, hb, hc, -, A', c', e', hi⟩ := hd ya hya
  obtain ⟨bm, om, rfl, hbm, hcm⟩ := hm j hj
  have hg := ht.get j hj
  obtain ⟨hlt, hge⟩ := List.getElem?_eq_some_iff.1 hg
  obtain ⟨b2, o2, rfl, hb2, hc2⟩ := hi (base + j) hlt
  rw [e'] at hc
  rw [hge] at hc2
  exact ⟨b, o, b2, o2, c', bm, om, str m[j], rfl, rfl, hlt, hc, hc2, hcm, hb, hb2, hbm⟩
theorem tell_at (a0 : Act) (wr : World) (at_ h0 nR n2 nm cm : Nat) (Am : Option Addr) (hd : a0.defers = []) (hz : a0.tmps.size = 343) (fm : a0.tmps.getD 14 undef = .slice Am nm cm) (hs : nR ≤ 1000000 ∧ n2 ≤ 1000000 ∧ nm ≤ 1000000)
    (hr : ∀ j, j < nm → ∃ b o cap b2 o2 c2 bm om cm S, Reads (fun n => a0.tmps.getD n undef) wr 14 at_ (h0 + j) j nR n2 nm b o cap b2 o2 c2 bm om cm S) (fb : Nat) (h13 : a0.tmps.getD 13 undef = .pointer (some ⟨fb, 0, none⟩)) (hb2 : 0 < nm → wr.cell? ⟨fb, 2, none⟩ = some (.int .i64 (at_ : Int)))
    (h8 : a0.tmps.getD 8 undef = .int .i64 (h0 : Int)) (hj : a0.tmps.getD 16 undef = .int .i64 ((0 : Nat) : Int)) (Q : Exit → Act → World → Prop)
    (hQ : ∀ a' n, KeepT (fun n => a0.tmps.getD n undef) 14 16 (h0 + nm) nm a' → Q (.exit 3) a' (wr.drewN n)) : Code.wp Try.prog (.loop tellB) Q a0 wr :=
  tell_act (fun n => a0.tmps.getD n undef) wr at_ h0 nR n2 nm cm Am fm hs hr fb h13 hb2 a0 ⟨hd, hz, rfl, rfl, rfl, rfl, rfl, rfl, rfl, rfl, rfl, rfl, rfl, h8, hj⟩ Q hQ
theorem tell2_at (a0 : Act) (wr : World) (at_ h0 nR n2 nm cm : Nat) (Am : Option Addr) (hd : a0.defers = []) (hz : a0.tmps.size = 343) (fm : a0.tmps.getD 19 undef = .slice Am nm cm) (hs : nR ≤ 1000000 ∧ n2 ≤ 1000000 ∧ nm ≤ 1000000)
    (hr : ∀ j, j < nm → ∃ b o cap b2 o2 c2 bm om cm S, Reads (fun n => a0.tmps.getD n undef) wr 19 at_ (h0 + j) j nR n2 nm b o cap b2 o2 c2 bm om cm S)
    (h8 : a0.tmps.getD 8 undef = .int .i64 (h0 : Int)) (hj : a0.tmps.getD 21 undef = .int .i64 ((0 : Nat) : Int)) (Q : Exit → Act → World → Prop)
    (hQ : ∀ a' n, KeepT (fun n => a0.tmps.getD n undef) 19 21 (h0 + nm) nm a' → Q (.exit 9) a' (wr.drewN n)) : Code.wp Try.prog (.loop tellC) Q a0 wr :=
  tell2_act (fun n => a0.tmps.getD n undef) wr at_ h0 nR n2 nm cm Am fm hs hr a0 ⟨hd, hz, rfl, rfl, rfl, rfl, rfl, rfl, rfl, rfl, rfl, rfl, rfl, h8, hj⟩ Q hQ
theorem lv_b (f : Nat → Value) (w wr : World) (s : St) (vd : Value) (R : Rows) (i x y ob : Nat) (kd kk : Int) (dt : List UInt8) (Q : Exit → Act → World → Prop) (hI : Has (Both s.hold (Both (RwD vd R) (BoxW ob kd kk dt))) w wr) (hL : LvI s R x y) (hxy : x + y = i) (hi : i < 120) (hf : KeepG f vd s) (h11 : f 11 = .pointer (some ⟨ob, 0, none⟩)) (hQ : SwV (f 0) (f 10) (f 17) w i Q) (e1 : (kd == 1) = false) (e2 : (kd == 2) = false) (e4 : (kd == 4) = false) (e6 : (kd == 6) = false) (hcc : ((kd == 7) = false ∧ (kd == 5) = false) ∨ ((kd == 7) = true ∧ decide (s.b.m < 20) = false ∧ (kd == 5) = false) ∨ ((kd == 7) = false ∧ (kd == 5) = true ∧ decide ((s.way.length : Int) < 200) = false)) (k : Nat) (hk : k < s.way.length) (h12 : f 12 = .int .i64 (k : Int)) (ht : s.way[k].t = 2) :
    Code.wp Try.prog swL Q ⟨frame f, []⟩ wr := by
  have hB : Hold (BoxW ob kd kk dt) := holdW _ _ _ _
  have hX : Hold (Both (RwD vd R) (BoxW ob kd kk dt)) := (holdRwD _ _).both hB
  obtain ⟨Aw, cw, ew⟩ := st_form hI
  obtain ⟨_, ⟨_, _, hrd, hbx, _⟩⟩ := st_other hI
  obtain ⟨o0, o1, o2, ol⟩ := hbx.cells
  clear hbx
  have hmost := hL.on.most (by omega)
  have hlen := hL.len
  obtain ⟨b, p, rfl, hbl, q0, q1, q2, q3, q4, q5, q6, q7⟩ := st_at hI ew k hk
  have t0 : ((s.way.length : Int) == 0) = false := by simp; intro e; rw [e] at hk; simp at hk
  have hkI : (k : Int) < (s.way.length : Int) := by omega
  have ew1 : IntKind.i64.wrap ((k : Int) + 1) = (k : Int) + 1 := IntWalk.i64_in _ (by omega)
  have hkl : (k : Int) ≤ (s.way.length : Int) := by omega
  have hk1 : (k : Int) + 1 ≤ (s.way.length : Int) := by omega
  have hsm : (s.way.length : Int) ≤ 2000 := by omega
  have hfin := hL.lvs.fin s.way[k] (List.getElem_mem hk)
  have hon := fun (hN : Near (s.c + 1) (takeS s.b s.way[k])) v => hL.takeB k hk ht hN v
  have hlen1 : (s.way.eraseIdx k).length ≤ 2000 := by have : (s.way.eraseIdx k).length ≤ s.way.length := List.length_eraseIdx_le ..; omega
  obtain ⟨fr, hfr⟩ : ∃ fr, fr = s.way[k] := ⟨_, rfl⟩
  rw [← hfr] at q0 q1 q2 q3 q4 q5 q6 q7 hfin hon ht
  have t1 : (fr.t == 2) = true := by simp [ht]
  have h1 := (lh_box hX hI (box_f wr fr)).imp fun _ h => Both.impR h fun _ => Both.assoc
  obtain ⟨W1, hW1⟩ : ∃ W1, W1 = wr.alloc (.cells #[.int .i64 fr.f, .int .i64 fr.t, .int .i64 fr.m, .int .i64 fr.y, .int .i64 fr.s, .int .i64 fr.a, .string (str fr.d), .bool fr.h] 34) := ⟨_, rfl⟩
  obtain ⟨fb, hfb⟩ : ∃ fb, fb = wr.heap.size := ⟨_, rfl⟩
  rw [← hW1, ← hfb] at h1
  have hY : Hold (Both (RwD vd R) (Both (BoxW ob kd kk dt) (BoxF fb fr))) := (holdRwD _ _).both (hB.both (holdBF _ _))
  obtain ⟨A1, c1, A2, c2, B1, b1, u1, A3, c3, u2, g1, g2, r1, r2, h6⟩ := st_cut hY h1 ew k hk (by omega) 26
  obtain ⟨nl, hnl⟩ : ∃ nl, nl = s.way.length - (k + 1) := ⟨_, rfl⟩
  obtain ⟨ne, hne⟩ : ∃ ne, ne = s.way.length - 1 := ⟨_, rfl⟩
  rw [← hnl] at g2 r2
  rw [← hne] at r2 h6
  have R1 := Lib.hid r1
  have R2 := Lib.hid r2
  obtain ⟨_, ⟨_, _, _, ⟨_, _, _, hbf, _⟩, _⟩⟩ := st_other h6
  have hbc := hbf.cells
  have HTK := Lib.hid (st_takeB hY h6 fr hfin (by show s.c + 1 ≤ 100000000; omega))
  have HON := Lib.hid hon
  have HE1 := Lib.hid hlen1
  have HY := Lib.hid hY
  have HW1 := Lib.hid hW1
  have HFB := Lib.hid hfb
  have HBC := Lib.hid hbc
  clear h1 r1 r2 h6 hbf hbc hfin hon hlen1 hY hW1 hfb hnl hne hk hfr ht
  have h3 := hf.s3
  have h4 := hf.s4
  have h5 := hf.s5
  have h6 := hf.s6.trans ew
  have h7 := hf.s7
  have h8 := hf.s8
  have h9 := hf.s9
  have HQ := Lib.hid hQ
  have HXY := Lib.hid hxy
  have EW := Lib.hid ew
  have HL := Lib.hid hL
  have HB := Lib.hid hB
  have HX := Lib.hid hX
  clear hI hL hQ hf hmost ew hxy hrd hB hX hlen
  unfold frame
  rw [h3, h4, h5, h6, h7, h8, h9, h11, h12]
  clear h12 h3 h4 h5 h6 h7 h8 h9 h11
  conv => arg 2; whnf
  rcases hcc with ⟨t7, t5⟩ | ⟨t7, t20, t5⟩ | ⟨t7, t5, t200⟩
  all_goals
    go_wp2_with fail
    rw [← HW1.out, ← HFB.out]
    refine wp_region_exV (by kernel_rfl) (ClsN [3, 8] (fun m W => W = w3of (W1).drew u1 u2 m))
      [[(6, none)], [(12, none)], [(67, some 0), (68, some 1)], [(69, some 2)], [(6, none)], [(12, none)], [(72, some 5)], [(71, some 4), (73, some 6)], [(70, some 3), (74, some 7)], [(75, some 8)]]
      [none, none, none, none, none, none, some 9, none, none, none, none, none, none, none, none, none, none, none, none, none, none, none, none, none, none, none, none, none, none, none, none, none, none, none, none, none, none, none, none, none, none, none, none, none, none, none, none, none, none, none, none, none, none, none, none, none, none, none, none, none, none, none, none, none, none, none, none, some 0, some 1, some 2, some 3, some 4, some 5, some 6, some 7, some 8, none, none, none, none, none, none, none, none, none, none, none, none, none, none, none, none, none, none, none, none, none, none, none, none, none, none, none, none, none, none, none, none, none, none, none, none, none, none, none, none, none, none, none, none, none, none, none, none, none, none, none, none, none, none, none, none, none, none, none, none, none, none, none, none, none, none, none, none, none, none, none, none, none, none, none, none, none, none, none, none, none, none, none, none, none, none, none, none, none, none, none, none, none, none, none, none, none, none, none, none, none, none, none, none, none, none, none, none, none, none, none, none, none, none, none, none, none, none, none, none, none, none, none, none, none, none, none, none, none, none, none, none, none, none, none, none, none, none, none, none, none, none, none, none, none, none, none, none, none, none, none, none, none, none, none, none, none, none, none, none, none, none, none, none, none, none, none, none, none, none, none, none, none, none, none, none, none, none, none, none, none, none, none, none, none, none, none, none, none, none, none, none, none, none, none, none, none, none, none, none, none, none, none, none, none, none, none, none, none, none, none, none, none, none, none, none, none, none, none, none, none, none, none, none, none, none, none, none, none, none, none, none, none, none, none, none, none, none, none, none, none, none, none, none, none, none, none, none, none, none, none, none, none, none, none, none, none, none, none, none, none, none, none, none, none, none, none] (by kernel_rfl) (by kernel_rfl) (ClsN.start rfl) ?_
    iterate 3
      refine exV_pure (c := ?_) (fun _ _ _ h => h.pure (by decide)) ?_ ?_
      rotate_left
      · intro a' d' W hR hF
        simp only [FactsV, List.nil_append, List.cons_append, List.getD_cons_zero, List.getD_cons_succ, exists_eq_left, and_true, true_and, List.getElem?_toArray, List.getElem?_cons_zero, List.getElem?_cons_succ] at hF
        refine ⟨?_, ?_⟩
        · simp [Region.wanted, yielded, hF]
        · go_simp
          with_reducible rfl
    refine exV_step (fun v => v = .slice B1 k b1) (fun a' d' W hd hR hF => ?_) ?_
    · skip
      simp only [FactsV, List.nil_append, List.cons_append, List.getD_cons_zero, List.getD_cons_succ, exists_eq_left, and_true, true_and, List.getElem?_toArray, List.getElem?_cons_zero, List.getElem?_cons_succ] at hF
      have h0 : W = (W1).drew := hR.here (t := 0) rfl hd (fun _ _ h => absurd h (by omega))
      exact ⟨by simp [Region.wanted, yielded, hF], .slice B1 k b1, u1, run_append_op (.const (.slice none 0 0)) (.tmp 69) _ _ rfl _ _ rfl (by simp [Act.eval, hF]) (h0 ▸ R1.out), rfl, hR.step (t := 0) (by decide) rfl hd (fun _ _ h => absurd h (by omega)) rfl⟩
    iterate 4
      refine exV_pure (c := ?_) (fun _ _ _ h => h.pure (by decide)) ?_ ?_
      rotate_left
      · intro a' d' W hR hF
        simp only [FactsV, List.nil_append, List.cons_append, List.getD_cons_zero, List.getD_cons_succ, exists_eq_left, and_true, true_and, List.getElem?_toArray, List.getElem?_cons_zero, List.getElem?_cons_succ] at hF
        refine ⟨?_, ?_⟩
        · simp [Region.wanted, yielded, hF]
        · go_simp
          with_reducible rfl
    refine exV_step (fun v => v = .slice A3 ne c3) (fun a' d' W hd hR hF => ?_) ?_
    · skip
      simp only [FactsV, List.nil_append, List.cons_append, List.getD_cons_zero, List.getD_cons_succ, exists_eq_left, and_true, true_and, List.getElem?_toArray, List.getElem?_cons_zero, List.getElem?_cons_succ] at hF
      have hp : ∀ j, ([3, 8] : List Nat)[1 - 1]? = some j → 0 < 1 → (d' j).isSome = true := fun j hj _ => by cases hj; rw [hF.1.2]; rfl
      have h1 : W = u1 := hR.here (t := 1) rfl hd hp
      exact ⟨by simp [Region.wanted, yielded, hF], .slice A3 ne c3, u2, run_append_op (.tmp 70) (.tmp 74) _ _ rfl _ _ (by simp [Act.eval, hF]) (by simp [Act.eval, hF]) (h1 ▸ R2.out), rfl, hR.step (t := 1) (by decide) rfl hd hp rfl⟩
    iterate 1
      refine exV_pure (c := ?_) (fun _ _ _ h => h.pure (by decide)) ?_ ?_
      rotate_left
      · intro a' d' W hR hF
        simp only [FactsV, List.nil_append, List.cons_append, List.getD_cons_zero, List.getD_cons_succ, exists_eq_left, and_true, true_and, List.getElem?_toArray, List.getElem?_cons_zero, List.getElem?_cons_succ] at hF
        refine ⟨?_, ?_⟩
        · simp [Region.wanted, yielded, hF]
        · go_simp
          with_reducible rfl
    show ∀ d W, _ → _ → _
    intro d w9 hA2 hR2
    simp only [FinV, List.nil_append, List.cons_append, List.getD_cons_zero, List.getD_cons_succ, forall_eq, forall_const, true_implies, forall_exists_index, and_imp, Nat.reduceAdd, Array.getD_eq_getD_getElem?, List.getElem?_toArray, List.getElem?_cons_zero, List.getElem?_cons_succ, Option.getD_some]
    have hw9 : w9 = u2 := hR2.done (t := 1) (k := 8) rfl rfl (hA2 8 (by decide))
    subst hw9
    clear hR2 hA2
    iterate 10 intro _
    obtain ⟨z0, z1, z2, z3, z4, z5, z6, z7, zl⟩ := HBC.out
    clear o0 o1 o2 ol q0 q1 q2 q3 q4 q5 q6 q7 g1 g2 R1 R2 hbl
    have HTK2 := HTK.out
    unfold aggF at HTK2
    have HTK3 := Lib.hid HTK2
    clear HTK2 HTK
    go_wp2_with fail
    refine HTK3.out.mono ?_
    rintro e w7 ⟨v7, rfl, -, h7⟩
    have hnr := st_near h7
    have HOU := Lib.hid (st_outB HY.out h7)
    have HNR := Lib.hid hnr
    clear h7 hnr HTK3 z0 z1 z2 z3 z4 z5 z6 z7 zl
    go_wp2_with fail
    refine HOU.out.mono ?_
    rintro e w9 ⟨v9, rfl, hr9, h9⟩
    obtain ⟨B9, b9, rfl, -⟩ := frow_at hr9
    obtain ⟨A11, c11, W11, hr11, h11⟩ := st_way HY.out h9 hr9 26 (by have := outF_len (takeS s.b fr) HNR.out.2.2; have := HE1.out; show (s.way.eraseIdx k).length + (outF (takeS s.b fr)).length ≤ 1000000; omega)
    obtain ⟨n11, hn11⟩ : ∃ n11, n11 = (s.way.eraseIdx k).length + (outF (takeS s.b fr)).length := ⟨_, rfl⟩
    obtain ⟨no, hno⟩ : ∃ no, no = (outF (takeS s.b fr)).length := ⟨_, rfl⟩
    have hr11' : (Builtin.append_ #[26, 26] 26 #[.slice A3 ne c3, .slice B9 no b9]).run Try.prog w9 = .ok (.slice A11 n11 c11) W11 := by rw [hn11, hno]; exact hr11
    have H11 : Hid (Has (Both { s with b := outS (takeS s.b fr), c := s.c + 1, vw := .slice A11 n11 c11, way := s.way.eraseIdx k ++ outF (takeS s.b fr) }.hold (Both (RwD vd R) (Both (BoxW ob kd kk dt) (BoxF fb fr)))) w W11) := Lib.hid (by rw [hn11]; exact h11)
    have HLI := Lib.hid (HON.out HNR.out.2.1 (.slice A11 n11 c11))
    rw [← hno]
    have HR11 := Lib.hid hr11'
    clear hr9 h9 hr11 hr11' h11 hn11 hno HOU
    go_wp2_with (at_builtin; refine wpList_append_eq rfl (.tmp 82) (.tmp 84) 26 26 rfl _ _ _ rfl rfl HR11.out ?_)
    refine (HQ.out _ _ ({ s with b := outS (takeS s.b fr), c := s.c + 1, vw := .slice A11 n11 c11, way := s.way.eraseIdx k ++ outF (takeS s.b fr) }) (vd) (R) (x) (y + 1) ?_ (lh_drop (holdRwD _ _) H11.out) HLI.out.1 (by have := HXY.out; omega)).2; exact ⟨rfl, rfl, rfl, rfl, rfl, congrArg (Value.int .i64) HLI.out.2.symm, rfl, rfl, rfl, rfl, rfl, rfl⟩
theorem lv_a (f : Nat → Value) (w wr : World) (s : St) (vd : Value) (R : Rows) (i x y ob : Nat) (kd kk : Int) (dt : List UInt8) (Q : Exit → Act → World → Prop) (hI : Has (Both s.hold (Both (RwD vd R) (BoxW ob kd kk dt))) w wr) (hL : LvI s R x y) (hxy : x + y = i) (hi : i < 120) (hf : KeepG f vd s) (h11 : f 11 = .pointer (some ⟨ob, 0, none⟩)) (hQ : SwV (f 0) (f 10) (f 17) w i Q) (e1 : (kd == 1) = false) (e2 : (kd == 2) = false) (e4 : (kd == 4) = false) (e6 : (kd == 6) = false) (hcc : ((kd == 7) = false ∧ (kd == 5) = false) ∨ ((kd == 7) = true ∧ decide (s.b.m < 20) = false ∧ (kd == 5) = false) ∨ ((kd == 7) = false ∧ (kd == 5) = true ∧ decide ((s.way.length : Int) < 200) = false)) (k : Nat) (hk : k < s.way.length) (h12 : f 12 = .int .i64 (k : Int)) (ht : s.way[k].t ≠ 2) :
    Code.wp Try.prog swL Q ⟨frame f, []⟩ wr := by
  have hB : Hold (BoxW ob kd kk dt) := holdW _ _ _ _
  obtain ⟨Aw, cw, ew⟩ := st_form hI
  obtain ⟨nd, hnd⟩ : ∃ nd, nd = R.length := ⟨_, rfl⟩
  obtain ⟨_, ⟨_, _, hrd, hbx, _⟩⟩ := st_other hI
  obtain ⟨o0, o1, o2, ol⟩ := hbx.cells
  clear hbx
  have hmost := hL.on.most (by omega)
  have hlen := hL.len
  obtain ⟨Ad, cd, ed, -⟩ := rwD_at hrd
  rw [← hnd] at ed
  subst ed
  have hX : Hold (Both (RwD (.slice Ad nd cd) R) (BoxW ob kd kk dt)) := (holdRwD _ _).both hB
  have HLN := Lib.hid hlen
  have HLE : Hid (∀ p ∈ R, p.2.length ≤ 120) := Lib.hid fun p hp => Nat.le_trans (hL.lens p hp) (by omega)
  obtain ⟨b, p, rfl, hbl, q0, q1, q2, q3, q4, q5, q6, q7⟩ := st_at hI ew k hk
  have t0 : ((s.way.length : Int) == 0) = false := by simp; intro e; rw [e] at hk; simp at hk
  have hkI : (k : Int) < (s.way.length : Int) := by omega
  have ew1 : IntKind.i64.wrap ((k : Int) + 1) = (k : Int) + 1 := IntWalk.i64_in _ (by omega)
  have hkl : (k : Int) ≤ (s.way.length : Int) := by omega
  have hk1 : (k : Int) + 1 ≤ (s.way.length : Int) := by omega
  have hsm : (s.way.length : Int) ≤ 2000 := by omega
  have hfin := hL.lvs.fin s.way[k] (List.getElem_mem hk)
  have hwa := (st_near hI).1.2
  have hon := fun (hN : Near (s.c + 1) (takeS s.a s.way[k])) v => hL.takeA k hk ht hN hwa v
  have hlen1 : (s.way.eraseIdx k).length ≤ 2000 := by have : (s.way.eraseIdx k).length ≤ s.way.length := List.length_eraseIdx_le ..; omega
  obtain ⟨fr, hfr⟩ : ∃ fr, fr = s.way[k] := ⟨_, rfl⟩
  rw [← hfr] at q0 q1 q2 q3 q4 q5 q6 q7 hfin hon ht
  have t1 : (fr.t == 2) = false := by simp [ht]
  have h1 := (lh_box hX hI (box_f wr fr)).imp fun _ h => Both.impR h fun _ => Both.assoc
  obtain ⟨W1, hW1⟩ : ∃ W1, W1 = wr.alloc (.cells #[.int .i64 fr.f, .int .i64 fr.t, .int .i64 fr.m, .int .i64 fr.y, .int .i64 fr.s, .int .i64 fr.a, .string (str fr.d), .bool fr.h] 34) := ⟨_, rfl⟩
  obtain ⟨fb, hfb⟩ : ∃ fb, fb = wr.heap.size := ⟨_, rfl⟩
  rw [← hW1, ← hfb] at h1
  have hY : Hold (Both (RwD (.slice Ad nd cd) R) (Both (BoxW ob kd kk dt) (BoxF fb fr))) := (holdRwD _ _).both (hB.both (holdBF _ _))
  obtain ⟨A1, c1, A2, c2, B1, b1, u1, A3, c3, u2, g1, g2, r1, r2, h6⟩ := st_cut hY h1 ew k hk (by omega) 26
  obtain ⟨nl, hnl⟩ : ∃ nl, nl = s.way.length - (k + 1) := ⟨_, rfl⟩
  obtain ⟨ne, hne⟩ : ∃ ne, ne = s.way.length - 1 := ⟨_, rfl⟩
  rw [← hnl] at g2 r2
  rw [← hne] at r2 h6
  have R1 := Lib.hid r1
  have R2 := Lib.hid r2
  obtain ⟨_, ⟨_, _, _, ⟨_, _, _, hbf, _⟩, _⟩⟩ := st_other h6
  have hbc := hbf.cells
  have HTK := Lib.hid (st_takeAQ hY h6 fr hfin (by show s.c + 1 ≤ 100000000; omega))
  have HON := Lib.hid hon
  have HE1 := Lib.hid hlen1
  have HY := Lib.hid hY
  have HW1 := Lib.hid hW1
  have HFB := Lib.hid hfb
  have HBC := Lib.hid hbc
  have HWA := Lib.hid hwa
  clear hwa
  clear h1 r1 r2 h6 hbf hbc hfin hon hlen1 hY hW1 hfb hnl hne hk hfr ht hnd
  have h3 := hf.s3
  have h4 := hf.s4
  have h5 := hf.s5
  have h6 := hf.s6.trans ew
  have h7 := hf.s7
  have h8 := hf.s8
  have h9 := hf.s9
  have HQ := Lib.hid hQ
  have HXY := Lib.hid hxy
  have EW := Lib.hid ew
  have HL := Lib.hid hL
  have HB := Lib.hid hB
  have HX := Lib.hid hX
  clear hI hL hQ hf hmost ew hxy hrd hB hX hlen
  unfold frame
  rw [h3, h4, h5, h6, h7, h8, h9, h11, h12]
  clear h12 h3 h4 h5 h6 h7 h8 h9 h11
  conv => arg 2; whnf
  rcases hcc with ⟨t7, t5⟩ | ⟨t7, t20, t5⟩ | ⟨t7, t5, t200⟩
  all_goals
    go_wp2_with fail
    rw [← HW1.out, ← HFB.out]
    refine wp_region_exV (by kernel_rfl) (ClsN [3, 8] (fun m W => W = w3of (W1).drew u1 u2 m))
      [[(6, none)], [(12, none)], [(67, some 0), (68, some 1)], [(69, some 2)], [(6, none)], [(12, none)], [(72, some 5)], [(71, some 4), (73, some 6)], [(70, some 3), (74, some 7)], [(75, some 8)]]
      [none, none, none, none, none, none, some 9, none, none, none, none, none, none, none, none, none, none, none, none, none, none, none, none, none, none, none, none, none, none, none, none, none, none, none, none, none, none, none, none, none, none, none, none, none, none, none, none, none, none, none, none, none, none, none, none, none, none, none, none, none, none, none, none, none, none, none, none, some 0, some 1, some 2, some 3, some 4, some 5, some 6, some 7, some 8, none, none, none, none, none, none, none, none, none, none, none, none, none, none, none, none, none, none, none, none, none, none, none, none, none, none, none, none, none, none, none, none, none, none, none, none, none, none, none, none, none, none, none, none, none, none, none, none, none, none, none, none, none, none, none, none, none, none, none, none, none, none, none, none, none, none, none, none, none, none, none, none, none, none, none, none, none, none, none, none, none, none, none, none, none, none, none, none, none, none, none, none, none, none, none, none, none, none, none, none, none, none, none, none, none, none, none, none, none, none, none, none, none, none, none, none, none, none, none, none, none, none, none, none, none, none, none, none, none, none, none, none, none, none, none, none, none, none, none, none, none, none, none, none, none, none, none, none, none, none, none, none, none, none, none, none, none, none, none, none, none, none, none, none, none, none, none, none, none, none, none, none, none, none, none, none, none, none, none, none, none, none, none, none, none, none, none, none, none, none, none, none, none, none, none, none, none, none, none, none, none, none, none, none, none, none, none, none, none, none, none, none, none, none, none, none, none, none, none, none, none, none, none, none, none, none, none, none, none, none, none, none, none, none, none, none, none, none, none, none, none, none, none, none, none, none, none, none, none, none, none, none, none, none, none, none, none, none, none, none, none, none, none, none, none, none, none] (by kernel_rfl) (by kernel_rfl) (ClsN.start rfl) ?_
    iterate 3
      refine exV_pure (c := ?_) (fun _ _ _ h => h.pure (by decide)) ?_ ?_
      rotate_left
      · intro a' d' W hR hF
        simp only [FactsV, List.nil_append, List.cons_append, List.getD_cons_zero, List.getD_cons_succ, exists_eq_left, and_true, true_and, List.getElem?_toArray, List.getElem?_cons_zero, List.getElem?_cons_succ] at hF
        refine ⟨?_, ?_⟩
        · simp [Region.wanted, yielded, hF]
        · go_simp
          with_reducible rfl
    refine exV_step (fun v => v = .slice B1 k b1) (fun a' d' W hd hR hF => ?_) ?_
    · skip
      simp only [FactsV, List.nil_append, List.cons_append, List.getD_cons_zero, List.getD_cons_succ, exists_eq_left, and_true, true_and, List.getElem?_toArray, List.getElem?_cons_zero, List.getElem?_cons_succ] at hF
      have h0 : W = (W1).drew := hR.here (t := 0) rfl hd (fun _ _ h => absurd h (by omega))
      exact ⟨by simp [Region.wanted, yielded, hF], .slice B1 k b1, u1, run_append_op (.const (.slice none 0 0)) (.tmp 69) _ _ rfl _ _ rfl (by simp [Act.eval, hF]) (h0 ▸ R1.out), rfl, hR.step (t := 0) (by decide) rfl hd (fun _ _ h => absurd h (by omega)) rfl⟩
    iterate 4
      refine exV_pure (c := ?_) (fun _ _ _ h => h.pure (by decide)) ?_ ?_
      rotate_left
      · intro a' d' W hR hF
        simp only [FactsV, List.nil_append, List.cons_append, List.getD_cons_zero, List.getD_cons_succ, exists_eq_left, and_true, true_and, List.getElem?_toArray, List.getElem?_cons_zero, List.getElem?_cons_succ] at hF
        refine ⟨?_, ?_⟩
        · simp [Region.wanted, yielded, hF]
        · go_simp
          with_reducible rfl
    refine exV_step (fun v => v = .slice A3 ne c3) (fun a' d' W hd hR hF => ?_) ?_
    · skip
      simp only [FactsV, List.nil_append, List.cons_append, List.getD_cons_zero, List.getD_cons_succ, exists_eq_left, and_true, true_and, List.getElem?_toArray, List.getElem?_cons_zero, List.getElem?_cons_succ] at hF
      have hp : ∀ j, ([3, 8] : List Nat)[1 - 1]? = some j → 0 < 1 → (d' j).isSome = true := fun j hj _ => by cases hj; rw [hF.1.2]; rfl
      have h1 : W = u1 := hR.here (t := 1) rfl hd hp
      exact ⟨by simp [Region.wanted, yielded, hF], .slice A3 ne c3, u2, run_append_op (.tmp 70) (.tmp 74) _ _ rfl _ _ (by simp [Act.eval, hF]) (by simp [Act.eval, hF]) (h1 ▸ R2.out), rfl, hR.step (t := 1) (by decide) rfl hd hp rfl⟩
    iterate 1
      refine exV_pure (c := ?_) (fun _ _ _ h => h.pure (by decide)) ?_ ?_
      rotate_left
      · intro a' d' W hR hF
        simp only [FactsV, List.nil_append, List.cons_append, List.getD_cons_zero, List.getD_cons_succ, exists_eq_left, and_true, true_and, List.getElem?_toArray, List.getElem?_cons_zero, List.getElem?_cons_succ] at hF
        refine ⟨?_, ?_⟩
        · simp [Region.wanted, yielded, hF]
        · go_simp
          with_reducible rfl
    show ∀ d W, _ → _ → _
    intro d w9 hA2 hR2
    simp only [FinV, List.nil_append, List.cons_append, List.getD_cons_zero, List.getD_cons_succ, forall_eq, forall_const, true_implies, forall_exists_index, and_imp, Nat.reduceAdd, Array.getD_eq_getD_getElem?, List.getElem?_toArray, List.getElem?_cons_zero, List.getElem?_cons_succ, Option.getD_some]
    have hw9 : w9 = u2 := hR2.done (t := 1) (k := 8) rfl rfl (hA2 8 (by decide))
    subst hw9
    clear hR2 hA2
    iterate 10 intro _
    obtain ⟨z0, z1, z2, z3, z4, z5, z6, z7, zl⟩ := HBC.out
    clear o0 o1 o2 ol q0 q1 q2 q3 q4 q5 q6 q7 g1 g2 R1 R2 hbl
    have HTK2 := HTK.out
    unfold aggF at HTK2
    have HTK3 := Lib.hid HTK2
    clear HTK2 HTK
    go_wp2_with fail
    refine HTK3.out.mono ?_
    rintro e w7 ⟨v7, rfl, h7⟩
    have hnr := st_near h7
    obtain ⟨_, ⟨_, _, _, hrm, _⟩⟩ := st_other h7
    obtain ⟨B7, b7, rfl, -⟩ := rwT_at hrm
    have HZ : Hid (Hold (Both (Both (RwD (.slice Ad nd cd) R) (Both (BoxW ob kd kk dt) (BoxF fb fr))) (RwT (.slice B7 (takeL s.a fr).length b7) (takeL s.a fr)))) := Lib.hid (HY.out.both (St.hT _ _))
    have HOU := Lib.hid (st_outA HZ.out h7)
    have HNR := Lib.hid hnr
    obtain ⟨nm, hnm⟩ : ∃ nm, nm = (takeL s.a fr).length := ⟨_, rfl⟩
    rw [← hnm] at HZ HOU ⊢
    have HNM := Lib.hid hnm
    clear h7 hnr hrm hnm HTK3 z0 z1 z2 z3 z4 z5 z6 z7 zl
    go_wp2_with fail
    refine HOU.out.mono ?_
    rintro e w9 ⟨v9, rfl, hr9, h9⟩
    obtain ⟨B9, b9, rfl, -⟩ := frow_at hr9
    obtain ⟨A11, c11, W11, hr11, h11⟩ := st_way HZ.out h9 hr9 26 (by have := outF_len (takeS s.a fr) HNR.out.1.2; have := HE1.out; show (s.way.eraseIdx k).length + (outF (takeS s.a fr)).length ≤ 1000000; omega)
    obtain ⟨n11, hn11⟩ : ∃ n11, n11 = (s.way.eraseIdx k).length + (outF (takeS s.a fr)).length := ⟨_, rfl⟩
    obtain ⟨no, hno⟩ : ∃ no, no = (outF (takeS s.a fr)).length := ⟨_, rfl⟩
    have hr11' : (Builtin.append_ #[26, 26] 26 #[.slice A3 ne c3, .slice B9 no b9]).run Try.prog w9 = .ok (.slice A11 n11 c11) W11 := by rw [hn11, hno]; exact hr11
    have H11 : Hid (Has (Both { s with a := outS (takeS s.a fr), c := s.c + 1, vw := .slice A11 n11 c11, way := s.way.eraseIdx k ++ outF (takeS s.a fr) }.hold (Both (Both (RwD (.slice Ad nd cd) R) (Both (BoxW ob kd kk dt) (BoxF fb fr))) (RwT (.slice B7 nm b7) (takeL s.a fr)))) w W11) := Lib.hid (by rw [hn11]; exact h11)
    have HLI := Lib.hid (HON.out HNR.out.1.1 (.slice A11 n11 c11))
    rw [← hno]
    have HR11 := Lib.hid hr11'
    clear hr9 h9 hr11 hr11' h11 hn11 hno HOU
    obtain ⟨-, htl, hmn, hle, h0y, hym⟩ := HLI.out
    obtain ⟨ya, hya⟩ : ∃ ya : Nat, (takeS s.a fr).y = (ya : Int) := ⟨(takeS s.a fr).y.toNat, by omega⟩
    rw [hya] at htl hmn hle hym
    rw [Int.toNat_natCast] at htl
    have hyR : ya < R.length := by have := HLN.out; omega
    obtain ⟨e1', e2', e3', e4', hrd⟩ := reads_of H11.out ya _ _ hyR htl
    have hlf := st_lifeA H11.out
    rw [show (St.a { s with a := outS (takeS s.a fr), c := s.c + 1, vw := .slice A11 n11 c11, way := s.way.eraseIdx k ++ outF (takeS s.a fr) }).y = (ya : Int) from hya] at hlf
    have HLF := Lib.hid hlf
    have HRD := Lib.hid hrd
    have HYA := Lib.hid hya
    have HMN := Lib.hid hmn
    have HAL := Lib.hid e3'
    have HSZ : Hid (R.length ≤ 1000000 ∧ R[ya].2.length ≤ 1000000 ∧ nm ≤ 1000000) := Lib.hid (by have := HLN.out; have := HL.out.life; have := HLE.out R[ya] (List.getElem_mem hyR); have := HNM.out; omega)
    have HYR := hyR
    have tb : decide (s.b.m < (ya : Int)) = false := decide_eq_false (by omega)
    have tc : decide ((ya : Int) < (ya : Int)) = false := decide_eq_false (by omega)
    have HBF : Hid (W11.cell? ⟨fb, 2, none⟩ = some (.int .i64 fr.m)) := Lib.hid (by
      obtain ⟨_, ⟨_, _, ⟨_, _, _, ⟨_, _, _, hbf, _⟩, _⟩, _⟩⟩ := st_other H11.out
      exact hbf.cells.2.2.1)
    have hcase : (decide (s.a.y < (ya : Int)) = true ∧ (if s.a.y < (ya : Int) then 0 else s.a.n) = 0) ∨ (decide (s.a.y < (ya : Int)) = false ∧ s.a.y = (ya : Int) ∧ (if s.a.y < (ya : Int) then 0 else s.a.n) = s.a.n) := by
      by_cases hlt : s.a.y < (ya : Int)
      · exact .inl ⟨decide_eq_true hlt, if_pos hlt⟩
      · exact .inr ⟨decide_eq_false hlt, by omega, if_neg hlt⟩
    clear htl hmn hle h0y hym hlf hrd hya e3' e4'
    have hn2 : nd = R.length := e1'
    subst hn2
    clear e1' e2'
    rcases hcase with ⟨ta, hbase⟩ | ⟨ta, heq, hbase⟩
    · rw [hbase] at HRD HAL
      clear hbase
      go_wp2_with (at_builtin; refine wpList_append_eq rfl (.tmp 92) (.tmp 94) 26 26 rfl _ _ _ rfl rfl HR11.out ?_)
      refine HLF.out.mono ?_
      rintro e w12 ⟨rfl, rfl⟩
      go_wp2_with fail
      refine HLF.out.mono ?_
      rintro e w12 ⟨rfl, rfl⟩
      go_wp2_with fail
      refine HLF.out.mono ?_
      rintro e w12 ⟨rfl, rfl⟩
      go_wp2_with fail
      refine tell_at _ W11 ya 0 R.length R[ya].2.length nm b7 B7 rfl rfl rfl HSZ.out (fun j hj => ?_) fb rfl (fun h => ?_) rfl rfl _ ?_
      · obtain ⟨b, o, b2, o2, c2, bm, om, S, g1, g2, g3, g4, g5, g6, g7, g8, g9⟩ := HRD.out j (by rw [← HNM.out]; exact hj)
        exact ⟨b, o, cd, b2, o2, c2, bm, om, b7, S, by rw [← g1]; rfl, rfl, by rw [← g2]; rfl, HYR, g3, hj, g4, g5, g6, g7, g8, g9⟩
      · rw [HBF.out, HMN.out (fun e => by have := HNM.out; rw [e] at this; simp at this; omega)]
      · intro a' n hk
        simp only [Exit.inBlock, Exit.then, ↓reduceIte]
        have h12 := H11.out.down (St.hold_ok _ |>.both HZ.out) (below_drewN (Below.refl _ _) n)
        refine (HQ.out a' (W11.drewN n) { s with a := outS (takeS s.a fr), c := s.c + 1, vw := .slice A11 n11 c11, way := s.way.eraseIdx k ++ outF (takeS s.a fr) } (.slice Ad R.length cd) R x (y + 1) ?_ (lh_drop (holdRwD _ _) (h12.imp fun _ h => Both.impR h fun _ => Both.assoc)) HLI.out.1 (by have := HXY.out; omega)).1
        exact ⟨hk.d, hk.z, hk.s0, hk.s3, hk.s4, hk.s5, hk.s6, hk.s7, hk.s8.trans (by rw [show (St.a { s with a := outS (takeS s.a fr), c := s.c + 1, vw := .slice A11 n11 c11, way := s.way.eraseIdx k ++ outF (takeS s.a fr) }).n = _ from HAL.out.symm, HNM.out]), hk.s9.trans (congrArg (Value.int .i64) HYA.out.symm), hk.s10, hk.s17⟩
    · rw [hbase] at HRD HAL
      rw [heq] at ta ⊢
      clear hbase heq
      go_wp2_with (at_builtin; refine wpList_append_eq rfl (.tmp 92) (.tmp 94) 26 26 rfl _ _ _ rfl rfl HR11.out ?_)
      refine HLF.out.mono ?_
      rintro e w12 ⟨rfl, rfl⟩
      go_wp2_with fail
      refine HLF.out.mono ?_
      rintro e w12 ⟨rfl, rfl⟩
      go_wp2_with fail
      refine tell_at _ W11 ya s.a.n R.length R[ya].2.length nm b7 B7 rfl rfl rfl HSZ.out (fun j hj => ?_) fb rfl (fun h => ?_) rfl rfl _ ?_
      · obtain ⟨b, o, b2, o2, c2, bm, om, S, g1, g2, g3, g4, g5, g6, g7, g8, g9⟩ := HRD.out j (by rw [← HNM.out]; exact hj)
        exact ⟨b, o, cd, b2, o2, c2, bm, om, b7, S, by rw [← g1]; rfl, rfl, by rw [← g2]; rfl, HYR, g3, hj, g4, g5, g6, g7, g8, g9⟩
      · rw [HBF.out, HMN.out (fun e => by have := HNM.out; rw [e] at this; simp at this; omega)]
      · intro a' n hk
        simp only [Exit.inBlock, Exit.then, ↓reduceIte]
        have h12 := H11.out.down (St.hold_ok _ |>.both HZ.out) (below_drewN (Below.refl _ _) n)
        refine (HQ.out a' (W11.drewN n) { s with a := outS (takeS s.a fr), c := s.c + 1, vw := .slice A11 n11 c11, way := s.way.eraseIdx k ++ outF (takeS s.a fr) } (.slice Ad R.length cd) R x (y + 1) ?_ (lh_drop (holdRwD _ _) (h12.imp fun _ h => Both.impR h fun _ => Both.assoc)) HLI.out.1 (by have := HXY.out; omega)).1
        exact ⟨hk.d, hk.z, hk.s0, hk.s3, hk.s4, hk.s5, hk.s6, hk.s7, hk.s8.trans (by rw [show (St.a { s with a := outS (takeS s.a fr), c := s.c + 1, vw := .slice A11 n11 c11, way := s.way.eraseIdx k ++ outF (takeS s.a fr) }).n = _ from HAL.out.symm, HNM.out]), hk.s9.trans (congrArg (Value.int .i64) HYA.out.symm), hk.s10, hk.s17⟩
end Go.Proofs.Ytbpcbdlmkoajdaa
