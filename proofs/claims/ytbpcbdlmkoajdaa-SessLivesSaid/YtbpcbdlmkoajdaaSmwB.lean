/- SessLives: its switch: a sends, b sends, b begins anew. -/
import Derived.Test.YtbpcbdlmkoajdaaSmwA
namespace Go.Proofs.Ytbpcbdlmkoajdaa
open Go Go.RowKit SesP
set_option maxRecDepth 1000000
set_option maxHeartbeats 16000000
set_option linter.unusedSimpArgs false
theorem LvI.sendB {s : St} {R : Rows} {x y : Nat} (h : LvI s R x y) (d : List UInt8) (hE : sendE s.b d = 0) (m : Nat) (hm : s.b.m = (m : Int)) (hmR : m < R.length) (v : Value) : LvI { s with b := sendS s.b d } (R.set m (v, R[m].2 ++ [d])) (x + 1) y := by
  have hk := (send_keeps s.b d).2.2.1
  refine ⟨?_, h.on.sendB d s.vs false, ?_, fun p hp => ?_⟩
  · have h1 := h.lvs.sendB d hE
    have e : (R.set m (v, R[m].2 ++ [d])).map Prod.snd = (R.map Prod.snd).set s.b.m.toNat ((R.map Prod.snd).getD s.b.m.toNat [] ++ [d]) := by
      rw [hm, Int.toNat_natCast, List.map_set]
      simp [List.getD_eq_getElem?_getD, hmR]
    rw [e]
    exact h1
  · show (sendS s.b d).m ≤ 20
    rw [hk]
    exact h.life
  · rcases List.mem_or_eq_of_mem_set hp with e | e
    · exact Nat.le_succ_of_le (h.lens p e)
    · rw [e]
      have := h.lens R[m] (List.getElem_mem hmR)
      simp only [List.length_append, List.length_singleton]
      omega
theorem LvI.anew {s : St} {R : Rows} {x y : Nat} (h : LvI s R x y) (hlt : s.b.m < 20) (gb : Nat) : LvI { s with gb := gb, b := newS 2 1 (s.b.m + 1) } (R ++ [(.slice none 0 0, [])]) x (y + 1) := by
  refine ⟨?_, h.on.anew gb _, ?_, fun p hp => ?_⟩
  · rw [List.map_append]
    exact h.lvs.anew (by omega) gb
  · show s.b.m + 1 ≤ 20
    omega
  · rcases List.mem_append.1 hp with e | e
    · exact h.lens p e
    · rw [List.mem_singleton.1 e]
      exact Nat.zero_le _

theorem lv_1 (f : Nat → Value) (w wr : World) (s : St) (vd : Value) (R : Rows) (i x y ob : Nat) (kk : Int) (d : List UInt8) (Q : Exit → Act → World → Prop) (hI : Has (Both s.hold (Both (RwD vd R) (BoxW ob 1 kk d))) w wr) (hL : LvI s R x y) (hxy : x + y = i) (hi : i < 120) (hf : KeepG f vd s) (h11 : f 11 = .pointer (some ⟨ob, 0, none⟩)) (hQ : SwV (f 0) (f 10) (f 17) w i Q) :
    Code.wp Try.prog swL Q ⟨frame f, []⟩ wr := by
  have hB : Hold (BoxW ob 1 kk d) := holdW _ _ _ _
  have hX : Hold (Both (RwD vd R) (BoxW ob 1 kk d)) := (holdRwD _ _).both hB
  obtain ⟨Aw, cw, ew⟩ := st_form hI
  obtain ⟨_, ⟨_, _, hrd, hbx, _⟩⟩ := st_other hI
  obtain ⟨o0, o1, o2, ol⟩ := hbx.cells
  clear hbx
  have hmost := hL.on.most (by omega)
  have hlen := hL.len
  have hk := send_keeps s.a d
  have HK := Lib.hid hk
  have HS := Lib.hid (st_sendA hX hI d)
  obtain ⟨E, hE⟩ : ∃ E, E = sendE s.a d := ⟨_, rfl⟩
  rw [← hE] at HS
  clear hk hE
  have h3 := hf.s3
  have h4 := hf.s4
  have h5 := hf.s5
  have h6 := hf.s6.trans ew
  have h7 := hf.s7
  have h8 := hf.s8
  have h9 := hf.s9
  have HQ := Lib.hid hQ
  have HXY := Lib.hid hxy
  have EW := Lib.hid ew
  have HL := Lib.hid hL
  have HB := Lib.hid hB
  have HX := Lib.hid hX
  clear hI hL hQ hf hmost ew hxy hrd hB hX hlen
  unfold frame
  rw [h3, h4, h5, h6, h7, h8, h9, h11]
  clear h3 h4 h5 h6 h7 h8 h9 h11
  conv => arg 2; whnf
  go_wp2_with fail
  refine HS.out.mono ?_
  rintro e w5 ⟨rfl, h5⟩
  have H6 := Lib.hid h5
  clear h5 HS
  go_wp2_with fail
  refine (HQ.out _ _ ({ s with a := sendS s.a d }) (vd) (R) (x + 1) (y) ?_ (lh_drop (holdRwD _ _) H6.out) ⟨HL.out.lvs.sendA d, HL.out.on.sendA d s.vd false, HL.out.life, fun p hp => Nat.le_succ_of_le (HL.out.lens p hp)⟩ (by have := HXY.out; omega)).1; exact ⟨rfl, rfl, rfl, rfl, rfl, rfl, EW.out.symm, rfl, congrArg (fun n : Nat => Value.int .i64 n) HK.out.2.2.2.2.2.1.symm, congrArg (Value.int .i64) HK.out.2.2.2.1.symm, rfl, rfl⟩
theorem lv_2 (f : Nat → Value) (w wr : World) (s : St) (vd : Value) (R : Rows) (i x y ob : Nat) (kk : Int) (d : List UInt8) (Q : Exit → Act → World → Prop) (hI : Has (Both s.hold (Both (RwD vd R) (BoxW ob 2 kk d))) w wr) (hL : LvI s R x y) (hxy : x + y = i) (hi : i < 120) (hf : KeepG f vd s) (h11 : f 11 = .pointer (some ⟨ob, 0, none⟩)) (hQ : SwV (f 0) (f 10) (f 17) w i Q) :
    Code.wp Try.prog swL Q ⟨frame f, []⟩ wr := by
  have hB : Hold (BoxW ob 2 kk d) := holdW _ _ _ _
  have hX : Hold (Both (RwD vd R) (BoxW ob 2 kk d)) := (holdRwD _ _).both hB
  obtain ⟨Aw, cw, ew⟩ := st_form hI
  obtain ⟨_, ⟨_, _, hrd, hbx, _⟩⟩ := st_other hI
  obtain ⟨o0, o1, o2, ol⟩ := hbx.cells
  clear hbx
  have hmost := hL.on.most (by omega)
  have hlen := hL.len
  have hk := send_keeps s.b d
  have HK := Lib.hid hk
  have hs := st_sendB hX hI d
  by_cases hE : sendE s.b d = 0
  · rw [hE] at hs
    have HS := Lib.hid hs
    have HE := Lib.hid hE
    obtain ⟨m, hm⟩ : ∃ m : Nat, s.b.m = (m : Int) := ⟨s.b.m.toNat, by omega⟩
    have hmR : m < R.length := by omega
    obtain ⟨Ad, cd, ed, hd⟩ := rwD_at hrd
    obtain ⟨bd, od, rfl, hbd, hcd, hfd, Ai, ci, ei, hi2⟩ := hd m hmR
    subst ed
    have hls := hL.lens R[m] (List.getElem_mem hmR)
    have HLR : Hid (R[m].2.length + 1 ≤ 1000000) := Lib.hid (by omega)
    have HEI := Lib.hid ei
    have HM := Lib.hid hm
    have hmI : (m : Int) < (R.length : Int) := by omega
    clear hs hE hd hi2 hls hk hbd hcd hfd ei
    have h3 := hf.s3
    have h4 := hf.s4
    have h5 := hf.s5
    have h6 := hf.s6.trans ew
    have h7 := hf.s7
    have h8 := hf.s8
    have h9 := hf.s9
    have HQ := Lib.hid hQ
    have HXY := Lib.hid hxy
    have EW := Lib.hid ew
    have HL := Lib.hid hL
    have HB := Lib.hid hB
    have HX := Lib.hid hX
    clear hI hL hQ hf hmost ew hxy hrd hB hX hlen
    unfold frame
    rw [hm] at h5
    clear hm
    rw [h3, h4, h5, h6, h7, h8, h9, h11]
    clear h3 h4 h5 h6 h7 h8 h9 h11
    conv => arg 2; whnf
    go_wp2_with fail
    refine HS.out.mono ?_
    rintro e w5 ⟨rfl, h5⟩
    have h5d := h5.down (St.hold_ok _ |>.both HX.out) (Below.refl _ w5).drew
    obtain ⟨_, ⟨_, _, hrd5, hbx5, _⟩⟩ := st_other h5d
    obtain ⟨Ad5, cd5, ed5, hd5⟩ := rwD_at hrd5
    obtain ⟨bd5, od5, e5, hbd, hcd, hfd, -⟩ := hd5 m hmR
    simp only [Value.slice.injEq] at ed5
    obtain ⟨rfl, -, rfl⟩ := ed5
    simp only [Option.some.injEq, Addr.mk.injEq, and_true] at e5
    obtain ⟨rfl, rfl⟩ := e5
    rw [HEI.out] at hcd
    obtain ⟨_, _, -, hrl5, -⟩ := hrd5
    obtain ⟨_, hT⟩ := rwL_at R hrl5 m hmR
    obtain ⟨A5, c5, W5, hr5, hst⟩ := rwT_push hT d 27 HLR.out
    have hset := rwD_set (b := bd) (o := od) (cap := cd) m hmR hst
    have h9 := h5d.steps (St.hold_ok _ |>.both HX.out) (St.hold_ok _ |>.both ((holdRwD _ _).both HB.out)) (Steps.right (St.hold_ok _) HX.out (Steps.left (holdRwD _ _) HB.out hset))
    have hmid := h5d.steps (St.hold_ok _ |>.both HX.out) (St.hold_ok _ |>.both (((holdRwX _ _ _ _ _).both (holdRwL _)).both HB.out)) (Steps.right (St.hold_ok _) HX.out (Steps.left (holdRwD _ _) HB.out (Steps.right (holdRwX _ _ _ _ _) (holdRwL R) (rwL_set R m hmR hst))))
    obtain ⟨_, ⟨_, _, ⟨_, _, hro, -⟩, hbx6, _⟩⟩ := st_other hmid
    obtain ⟨_, ⟨_, _, -, hbx9, _⟩⟩ := st_other h9
    obtain ⟨A6, c6, e6, -, -, h06, hc6⟩ := hro.1.form
    simp only [Value.slice.injEq, true_and] at e6
    obtain ⟨rfl, rfl⟩ := e6
    obtain ⟨-, hb6, hcell6, hf6⟩ := hc6 bd od rfl
    have hcd6 : W5.cell? ⟨bd, od + m, none⟩ = some (.slice Ai R[m].2.length ci) := hcell6 m (.slice Ai R[m].2.length ci) (by rw [List.getElem?_map, List.getElem?_eq_getElem hmR]; exact congrArg some HEI.out)
    have hff6 := hf6 (od + m)
    have hal : Below w5.drew.heap.size w5.drew (w5.drew.alloc (.cells #[.string (str d)] 9)) := (Below.refl _ _).alloc (Nat.le_refl _) _
    have hbx1 := HB.out.keep hbx5 (w' := w5.drew.alloc (.cells #[.string (str d)] 9)) fun k _ hl => hal.block k hl
    have hcd1 := (hal.cell (p := ⟨bd, od + m, none⟩) hbd).trans hcd
    obtain ⟨nl, hnl⟩ : ∃ nl, nl = R[m].2.length := ⟨_, rfl⟩
    rw [HEI.out] at hr5
    obtain ⟨W0, hW0⟩ : ∃ W0, W0 = w5.drew := ⟨_, rfl⟩
    obtain ⟨W1, hW1⟩ : ∃ W1, W1 = w5.drew.alloc (.cells #[.string (str d)] 9) := ⟨_, rfl⟩
    obtain ⟨W9, hW9⟩ : ∃ W9, W9 = W5.setCell ⟨bd, od + m, none⟩ (.slice A5 (R[m].2.length + 1) c5) := ⟨_, rfl⟩
    rw [← hW1] at hr5 hbx1 hcd1
    rw [← hW0] at hcd hbx5 hbd
    rw [← hW9] at h9 hbx9
    rw [← hnl] at hr5 hcd hcd1 hcd6 hW9
    have HBX : Hid (∀ m, (w4of W0 W1 W5 W9 m).cell? ⟨ob, 2, none⟩ = some (.string (str d)) ∧ ob < (w4of W0 W1 W5 W9 m).heap.size) := Lib.hid fun m => match m with
      | 0 => ⟨hbx5.cells.2.2.1, hbx5.cells.2.2.2⟩
      | 1 => ⟨hbx1.cells.2.2.1, hbx1.cells.2.2.2⟩
      | 2 => ⟨hbx6.cells.2.2.1, hbx6.cells.2.2.2⟩
      | _ + 3 => ⟨hbx9.cells.2.2.1, hbx9.cells.2.2.2⟩
    have HCD : Hid (∀ k, k ≤ 1 → (w4of W0 W1 W5 W9 k).cell? ⟨bd, od + m, none⟩ = some (.slice Ai nl ci)) := Lib.hid fun k hk => match k, hk with
      | 0, _ => hcd
      | 1, _ => hcd1
    have HR5 := Lib.hid hr5
    have HC6 := Lib.hid (And.intro hcd6 (And.intro hff6 hb6))
    have HLV := Lib.hid (HL.out.sendB d HE.out m HM.out hmR (.slice A5 (R[m].2.length + 1) c5))
    have HW := Lib.hid (And.intro hW0 (And.intro hW1 hW9))
    have H9 := Lib.hid h9
    have hsz : w5.drew.heap.size = w5.heap.size := rfl
    rw [hsz] at HR5
    clear h5 h5d hrl5 hT hr5 hst hset h9 hmid hro hbx6 hbx9 h06 hc6 hcell6 hf6 hff6 hcd6 hb6 hal hbx1 hbx5 hcd1 hcd hbd hfd hnl HS hW9 hsz HEI
    go_wp2_with fail
    refine wp_region_exV (by kernel_rfl) (ClsB [8, 9, 11] (fun m W => W = w4of W0 W1 W5 W9 m) [9] 5)
      [[(7, none)], [(5, none)], [(7, none)], [(5, none)], [(165, some 2), (166, some 3)], [(167, some 4)], [(11, none)], [(169, some 6)], [(170, some 7)], [(168, some 5), (171, some 8)], [(163, some 0), (164, some 1)], [(172, some 9), (173, some 10)]]
      [none, none, none, none, none, none, none, none, none, none, none, none, none, none, none, none, none, none, none, none, none, none, none, none, none, none, none, none, none, none, none, none, none, none, none, none, none, none, none, none, none, none, none, none, none, none, none, none, none, none, none, none, none, none, none, none, none, none, none, none, none, none, none, none, none, none, none, none, none, none, none, none, none, none, none, none, none, none, none, none, none, none, none, none, none, none, none, none, none, none, none, none, none, none, none, none, none, none, none, none, none, none, none, none, none, none, none, none, none, none, none, none, none, none, none, none, none, none, none, none, none, none, none, none, none, none, none, none, none, none, none, none, none, none, none, none, none, none, none, none, none, none, none, none, none, none, none, none, none, none, none, none, none, none, none, none, none, none, none, none, none, none, none, some 0, some 1, some 2, some 3, some 4, some 5, some 6, some 7, some 8, some 9, some 10, none, none, none, none, none, none, none, none, none, none, none, none, none, none, none, none, none, none, none, none, none, none, none, none, none, none, none, none, none, none, none, none, none, none, none, none, none, none, none, none, none, none, none, none, none, none, none, none, none, none, none, none, none, none, none, none, none, none, none, none, none, none, none, none, none, none, none, none, none, none, none, none, none, none, none, none, none, none, none, none, none, none, none, none, none, none, none, none, none, none, none, none, none, none, none, none, none, none, none, none, none, none, none, none, none, none, none, none, none, none, none, none, none, none, none, none, none, none, none, none, none, none, none, none, none, none, none, none, none, none, none, none, none, none, none, none, none, none, none, none, none, none, none, none, none, none, none, none, none, none, none, none, none, none, none, none, none, none, none, none, none, none, none, none, none, none, none, none, none] (by kernel_rfl) (by kernel_rfl) ⟨ClsN.start HW.out.1.symm, fun _ _ h => by cases h⟩ ?_
    iterate 5
      refine exV_pure (c := ?_) (fun _ _ _ h => h.pure (by decide) (by decide)) ?_ ?_
      rotate_left
      · intro a' d' W hR hF
        simp only [FactsV, List.nil_append, List.cons_append, List.getD_cons_zero, List.getD_cons_succ, exists_eq_left, and_true, true_and, List.getElem?_toArray, List.getElem?_cons_zero, List.getElem?_cons_succ] at hF
        refine ⟨?_, ?_⟩
        · simp [Region.wanted, yielded, hF]
        · go_simp
          with_reducible rfl
    refine exV_hand (fun v => v = .slice Ai nl ci) (fun a' d' W hd hR hF => ?_) ?_
    · skip
      simp only [FactsV, List.nil_append, List.cons_append, List.getD_cons_zero, List.getD_cons_succ, exists_eq_left, and_true, true_and, List.getElem?_toArray, List.getElem?_cons_zero, List.getElem?_cons_succ] at hF
      obtain ⟨mm, hle, hW⟩ := hR.low (t := 1) (k := 9) rfl (by decide) hd
      have hce : W.cell? ⟨bd, od + m, none⟩ = some (.slice Ai nl ci) := by rw [hW]; exact HCD.out mm hle
      clear hW
      exact ⟨by simp [Region.wanted, yielded, hF], .slice Ai nl ci, by first | (go_simp; done) | (go_simp; with_reducible rfl), rfl, hR.pure (by decide) (by decide)⟩
    iterate 2
      refine exV_pure (c := ?_) (fun _ _ _ h => h.pure (by decide) (by decide)) ?_ ?_
      rotate_left
      · intro a' d' W hR hF
        simp only [FactsV, List.nil_append, List.cons_append, List.getD_cons_zero, List.getD_cons_succ, exists_eq_left, and_true, true_and, List.getElem?_toArray, List.getElem?_cons_zero, List.getElem?_cons_succ] at hF
        obtain ⟨hce, hle⟩ := hR.1.all (C := fun W => W.cell? ⟨ob, 2, none⟩ = some (.string (str d)) ∧ ob < W.heap.size) (fun m W h => h ▸ HBX.out m)
        refine ⟨?_, ?_⟩
        · simp [Region.wanted, yielded, hF]
        · go_simp
          with_reducible rfl
    refine exV_step (fun v => v = .slice (some ⟨w5.heap.size, 0, none⟩) 1 1) (fun a' d' W hd hR hF => ?_) ?_
    · skip
      simp only [FactsV, List.nil_append, List.cons_append, List.getD_cons_zero, List.getD_cons_succ, exists_eq_left, and_true, true_and, List.getElem?_toArray, List.getElem?_cons_zero, List.getElem?_cons_succ] at hF
      have h0 : W = w5.drew := (hR.1.here (t := 0) rfl hd (fun _ _ h => absurd h (by omega))).trans HW.out.1
      subst h0
      exact ⟨by simp [Region.wanted, yielded, hF], .slice (some ⟨w5.heap.size, 0, none⟩) 1 1, W1, by rw [HW.out.2.1]; go_simp <;> rfl, rfl, hR.step (t := 0) (by decide) rfl (.inl (by decide)) hd (fun _ _ h => absurd h (by omega)) rfl⟩
    refine exV_step (fun v => v = .slice A5 (nl + 1) c5) (fun a' d' W hd hR hF => ?_) ?_
    · skip
      simp only [FactsV, List.nil_append, List.cons_append, List.getD_cons_zero, List.getD_cons_succ, exists_eq_left, and_true, true_and, List.getElem?_toArray, List.getElem?_cons_zero, List.getElem?_cons_succ] at hF
      have hp : ∀ j, ([8, 9, 11] : List Nat)[1 - 1]? = some j → 0 < 1 → (d' j).isSome = true := fun j hj _ => by cases hj; simp [hF]
      have h1 : W = W1 := hR.1.here (t := 1) rfl hd hp
      exact ⟨by simp [Region.wanted, yielded, hF], .slice A5 (nl + 1) c5, W5, run_append_op (.tmp 168) (.tmp 171) _ _ rfl _ _ (by simp [Act.eval, hF]) (by simp [Act.eval, hF]) (h1 ▸ HR5.out), rfl, hR.step (t := 1) (by decide) rfl (.inr (by simp [hF])) hd hp rfl⟩
    iterate 1
      refine exV_pure (c := ?_) (fun _ _ _ h => h.pure (by decide) (by decide)) ?_ ?_
      rotate_left
      · intro a' d' W hR hF
        simp only [FactsV, List.nil_append, List.cons_append, List.getD_cons_zero, List.getD_cons_succ, exists_eq_left, and_true, true_and, List.getElem?_toArray, List.getElem?_cons_zero, List.getElem?_cons_succ] at hF
        refine ⟨?_, ?_⟩
        · simp [Region.wanted, yielded, hF]
        · go_simp
          with_reducible rfl
    refine exV_storeA (fun a' d' W hd hA hR hF => ?_) ?_
    · skip
      simp only [FactsV, List.nil_append, List.cons_append, List.getD_cons_zero, List.getD_cons_succ, exists_eq_left, and_true, true_and, List.getElem?_toArray, List.getElem?_cons_zero, List.getElem?_cons_succ] at hF
      have hp : ∀ j, ([8, 9, 11] : List Nat)[2 - 1]? = some j → 0 < 2 → (d' j).isSome = true := fun j hj _ => by cases hj; simp [hF]
      have h2 : W = W5 := hR.1.here (t := 2) rfl hd hp
      subst h2
      obtain ⟨hce, hfz, hbl⟩ := HC6.out
      exact ⟨by simp [Region.wanted, yielded, hF], W9, by rw [HW.out.2.2]; go_simp <;> rfl, hR.step (t := 2) (by decide) rfl (.inl (by decide)) hd hp rfl⟩
    show ∀ d W, _ → _ → _
    intro d w9 hA2 hR2
    simp only [FinV, List.nil_append, List.cons_append, List.getD_cons_zero, List.getD_cons_succ, forall_eq, forall_const, true_implies, forall_exists_index, and_imp, Nat.reduceAdd, Array.getD_eq_getD_getElem?, List.getElem?_toArray, List.getElem?_cons_zero, List.getElem?_cons_succ, Option.getD_some]
    have hw9 : w9 = W9 := hR2.1.done (t := 2) (k := 11) rfl rfl (hA2 11 (by decide))
    subst hw9
    clear hR2 hA2
    intros
    refine (HQ.out _ _ (_) (.slice (some ⟨bd, od, none⟩) R.length cd) (_) (x + 1) (y) ?_ (lh_drop (holdRwD _ _) H9.out) HLV.out (by have := HXY.out; omega)).1; exact ⟨rfl, rfl, rfl, rfl, rfl, congrArg (Value.int .i64) (HK.out.2.2.1.trans HM.out).symm, EW.out.symm, rfl, rfl, rfl, rfl, rfl⟩
  · have t0 : (sendE s.b d == 0) = false := by simp [hE]
    have HNO := Lib.hid (send_no hE)
    obtain ⟨E, hEE⟩ : ∃ E, E = sendE s.b d := ⟨_, rfl⟩
    rw [← hEE] at hs t0
    have HS := Lib.hid hs
    clear hs hE hEE hk
    have h3 := hf.s3
    have h4 := hf.s4
    have h5 := hf.s5
    have h6 := hf.s6.trans ew
    have h7 := hf.s7
    have h8 := hf.s8
    have h9 := hf.s9
    have HQ := Lib.hid hQ
    have HXY := Lib.hid hxy
    have EW := Lib.hid ew
    have HL := Lib.hid hL
    have HB := Lib.hid hB
    have HX := Lib.hid hX
    clear hI hL hQ hf hmost ew hxy hrd hB hX hlen
    unfold frame
    rw [h3, h4, h5, h6, h7, h8, h9, h11]
    clear h3 h4 h5 h6 h7 h8 h9 h11
    conv => arg 2; whnf
    go_wp2_with fail
    refine HS.out.mono ?_
    rintro e w5 ⟨rfl, h5⟩
    rw [HNO.out] at h5
    have H6 := Lib.hid h5
    clear h5 HS
    go_wp2_with fail
    refine (HQ.out _ _ (s) (vd) (R) (x) (y + 1) ?_ (lh_drop (holdRwD _ _) H6.out) ⟨HL.out.lvs, HL.out.on.nop, HL.out.life, HL.out.lens⟩ (by have := HXY.out; omega)).1; exact ⟨rfl, rfl, rfl, rfl, rfl, rfl, EW.out.symm, rfl, rfl, rfl, rfl, rfl⟩
theorem lv_7 (f : Nat → Value) (w wr : World) (s : St) (vd : Value) (R : Rows) (i x y ob : Nat) (kk : Int) (d : List UInt8) (Q : Exit → Act → World → Prop) (hI : Has (Both s.hold (Both (RwD vd R) (BoxW ob 7 kk d))) w wr) (hL : LvI s R x y) (hxy : x + y = i) (hi : i < 120) (hf : KeepG f vd s) (h11 : f 11 = .pointer (some ⟨ob, 0, none⟩)) (hQ : SwV (f 0) (f 10) (f 17) w i Q) (hlt : s.b.m < 20) :
    Code.wp Try.prog swL Q ⟨frame f, []⟩ wr := by
  have hB : Hold (BoxW ob 7 kk d) := holdW _ _ _ _
  have hX : Hold (Both (RwD vd R) (BoxW ob 7 kk d)) := (holdRwD _ _).both hB
  obtain ⟨Aw, cw, ew⟩ := st_form hI
  obtain ⟨_, ⟨_, _, hrd, hbx, _⟩⟩ := st_other hI
  obtain ⟨o0, o1, o2, ol⟩ := hbx.cells
  clear hbx
  have hmost := hL.on.most (by omega)
  have hlen := hL.len
  have t1 : decide (s.b.m < 20) = true := decide_eq_true hlt
  have ewL : IntKind.i64.wrap (s.b.m + 1) = s.b.m + 1 := IntWalk.i64_in _ (by omega)
  have HNB := Lib.hid (sesNew_any 2 1 (s.b.m + 1))
  have HI := Lib.hid hI
  have HLT := Lib.hid hlt
  have HC : Hid (s.c ≤ 100000000) := Lib.hid (by omega)
  have HLR : Hid (R.length + 1 ≤ 1000000) := Lib.hid (by omega)
  obtain ⟨Ad, cd, rfl, -⟩ := rwD_at hrd
  clear hlt
  have h3 := hf.s3
  have h4 := hf.s4
  have h5 := hf.s5
  have h6 := hf.s6.trans ew
  have h7 := hf.s7
  have h8 := hf.s8
  have h9 := hf.s9
  have HQ := Lib.hid hQ
  have HXY := Lib.hid hxy
  have EW := Lib.hid ew
  have HL := Lib.hid hL
  have HB := Lib.hid hB
  have HX := Lib.hid hX
  clear hI hL hQ hf hmost ew hxy hrd hB hX hlen
  unfold frame
  rw [h3, h4, h5, h6, h7, h8, h9, h11]
  clear h3 h4 h5 h6 h7 h8 h9 h11
  conv => arg 2; whnf
  go_wp2_with fail
  refine (HNB.out wr).mono ?_
  rintro e w5 ⟨gb, rfl, h5⟩
  have h6 := st_anew HX.out HI.out h5 HC.out
  obtain ⟨_, ⟨_, _, hrd6, _⟩⟩ := st_other h6
  obtain ⟨A7, c7, W7, hr7, hst⟩ := rwD_more hrd6 40 HLR.out
  have H8 := Lib.hid (h6.steps (St.hold_ok _ |>.both HX.out) (St.hold_ok _ |>.both ((holdRwD _ _).both HB.out)) (Steps.right (St.hold_ok _) HX.out (Steps.left (holdRwD _ _) HB.out hst)))
  have HR7 := Lib.hid hr7
  clear h5 h6 hrd6 hr7 hst HNB HI o0 o1 o2 ol
  go_wp2_with (at_builtin; refine wpList_append_eq rfl (.tmp 186) (.tmp 187) 40 40 rfl _ _ _ rfl rfl HR7.out ?_)
  refine (HQ.out _ _ ({ s with gb := gb, b := newS 2 1 (s.b.m + 1) }) (.slice A7 (R.length + 1) c7) (R ++ [(.slice none 0 0, [])]) (x) (y + 1) ?_ (lh_drop (holdRwD _ _) H8.out) (HL.out.anew HLT.out gb) (by have := HXY.out; omega)).1; exact ⟨rfl, rfl, rfl, rfl, rfl, rfl, EW.out.symm, rfl, rfl, rfl, rfl, rfl⟩
end Go.Proofs.Ytbpcbdlmkoajdaa
