/- The statement BlockTells of package block: every image as bytes, every bytes as an image, every text filled up, as the document says; it holds of every image, every int and every text. -/
import Derived.Test.YtmlhncheodpbpaaGreatBlkO
import Derived.ChangeOld
import Derived.ShutString
namespace Go.Proofs.YtmlhncheodpbpaaGreat
open Go Go.RowKit Go.ChangeShapes Go.WideShapes Go.ChangeMaps Go.ChangeAt
set_option maxRecDepth 100000
set_option maxHeartbeats 2000000
set_option linter.unusedSimpArgs false

theorem blockTells_long (i : Im) (n : Int) (b : List UInt8) (w : World) (h : 300 < i.d.length ∨ 300 < b.length) :
    Calls Tryz.prog 3 #[aggI i, .int .i64 n, .string (str b)] w fun e w' => e = .returned (.bool true) ∧ Below w.heap.size w w' := by
  have HA := Lib.hid alive10_any
  obtain ⟨ib, iv, d⟩ := i
  unfold aggI
  simp only at h ⊢
  have hz := str_size d
  have hz2 := str_size b
  by_cases h1 : 300 < d.length
  · have d1 : decide (300 < ((str d).size : Int)) = true := decide_eq_true (by omega)
    clear h h1 hz hz2
    go_enter Tryz.func3, Tryz.ntmps3
    go_wp2_with fail
    (with_reducible refine (HA.out _).mono ?_)
    rintro e w1 ⟨rfl, hb⟩
    have HF := Lib.hid (((Below.refl w.heap.size w).alloc (Nat.le_refl _) _).trans (hb.mono (by simp)))
    clear hb
    go_wp2
    go_ret
    exact ⟨rfl, HF.out⟩
  · have d1 : decide (300 < ((str d).size : Int)) = false := decide_eq_false (by omega)
    have d2 : decide (300 < ((str b).size : Int)) = true := decide_eq_true (by omega)
    clear h h1 hz hz2
    go_enter Tryz.func3, Tryz.ntmps3
    go_wp2_with fail
    (with_reducible refine (HA.out _).mono ?_)
    rintro e w1 ⟨rfl, hb⟩
    have HF := Lib.hid (((Below.refl w.heap.size w).alloc (Nat.le_refl _) _).trans (hb.mono (by simp)))
    clear hb
    go_wp2
    go_ret
    exact ⟨rfl, HF.out⟩
theorem blockTells_short (i : Im) (n : Int) (b : List UInt8) (w : World) (hv : (i.v : Int) < 18446744073709551616) (h1 : ¬ 300 < i.d.length) (h2 : ¬ 300 < b.length) :
    Calls Tryz.prog 3 #[aggI i, .int .i64 n, .string (str b)] w fun e w' => e = .returned (.bool true) ∧ Below w.heap.size w w' := by
  have HA := Lib.hid alive10_any
  have HP := Lib.hid (bput_any i hv)
  have HQ := Lib.hid (rputb_any i hv)
  have HG := Lib.hid (bget_any n b)
  have HH := Lib.hid (rgetb_any n b)
  have HU := Lib.hid (bpad_any b (by omega))
  have HV := Lib.hid (rpad_any b (by omega))
  have HX := Lib.hid (bget_any n (bputF i).1)
  have HY := Lib.hid (rgetb_any n (bputF i).1)
  have d1 : decide (300 < ((str i.d).size : Int)) = false := decide_eq_false (by rw [str_size]; omega)
  have d2 : decide (300 < ((str b).size : Int)) = false := decide_eq_false (by rw [str_size]; omega)
  obtain ⟨⟨pl, pe⟩, hp⟩ : ∃ x, x = bputF i := ⟨_, rfl⟩
  obtain ⟨⟨⟨gb, gv, gd⟩, ge⟩, hg⟩ : ∃ x, x = getF n b := ⟨_, rfl⟩
  obtain ⟨⟨ul, ue⟩, hu⟩ : ∃ x, x = padF b := ⟨_, rfl⟩
  rw [← hp] at HP HQ HX HY
  rw [← hg] at HG HH
  rw [← hu] at HU HV
  simp only at HX HY
  obtain ⟨⟨⟨xb, xv, xd⟩, xe⟩, hx⟩ : ∃ x, x = getF n pl := ⟨_, rfl⟩
  rw [← hx] at HX HY
  obtain ⟨ib, iv, d⟩ := i
  unfold aggI at HP HQ HG HH HX HY ⊢
  simp only at HP HQ HG HH HU HV HX HY d1 ⊢
  generalize str b = B at *
  generalize str d = E at *
  generalize str pl = PL at *
  generalize str ul = UL at *
  generalize str gd = GD at *
  generalize str xd = XD at *
  clear h1 h2 hv hp hg hu hx
  obtain ⟨wa, hwa⟩ : ∃ wa, wa = w.alloc (.cells #[.int .i64 ib, .int .u64 (iv : Int), .string E] 24) := ⟨_, rfl⟩
  have HS : Hid (Sits wa w.heap.size 24 #[.int .i64 ib, .int .u64 (iv : Int), .string E]) := Lib.hid (hwa ▸ Sits.fresh w _ _)
  have HB : Hid (Below w.heap.size w wa) := Lib.hid (hwa ▸ (Below.refl _ w).alloc (Nat.le_refl _) _)
  go_enter Tryz.func3, Tryz.ntmps3
  go_wp2_with fail
  rw [← hwa]
  clear hwa
  (with_reducible refine (HP.out _).mono ?_)
  rintro e w1 ⟨rfl, hb⟩
  have hs := HS.out.below' hb
  have c0 : w1.cell? ⟨w.heap.size, 0, none⟩ = some (.int .i64 ib) := hs.cell 0
  have c1 : w1.cell? ⟨w.heap.size, 1, none⟩ = some (.int .u64 (iv : Int)) := hs.cell 1
  have c2 : w1.cell? ⟨w.heap.size, 2, none⟩ = some (.string E) := hs.cell 2
  have HB1 := Lib.hid (HB.out.trans (hb.mono HB.out.size))
  clear hb hs HS HB
  go_wp2_with fail
  (with_reducible refine (HQ.out _).mono ?_)
  rintro e w2 ⟨rfl, hb⟩
  have HB2 := Lib.hid (HB1.out.trans (hb.mono HB1.out.size))
  clear hb HB1 
  clear c0 c1 c2
  go_wp2_with fail
  (with_reducible refine (HG.out _).mono ?_)
  rintro e w3 ⟨rfl, hb⟩
  have HB3 := Lib.hid (HB2.out.trans (hb.mono HB2.out.size))
  clear hb HB2 
  obtain ⟨w3a, hw3a⟩ : ∃ x, x = w3.alloc (.cells #[.int .i64 gb, .int .u64 (gv : Int), .string GD] 24) := ⟨_, rfl⟩
  obtain ⟨ga, hga⟩ : ∃ x, x = w3.heap.size := ⟨_, rfl⟩
  have hba : Below w3.heap.size w3 w3a := hw3a ▸ (Below.refl _ w3).alloc (Nat.le_refl _) _
  have KA_3a : Hid (Sits w3a ga 24 #[.int .i64 gb, .int .u64 (gv : Int), .string GD]) := Lib.hid (by rw [hw3a, hga]; exact Sits.fresh w3 _ _)
  have HB3a := Lib.hid (HB3.out.trans (hba.mono HB3.out.size))
  clear hba HB3 
  go_wp2_with fail
  rw [← hw3a, ← hga]
  clear hw3a hga
  (with_reducible refine (HH.out _).mono ?_)
  rintro e w4 ⟨rfl, hb⟩
  have HB4 := Lib.hid (HB3a.out.trans (hb.mono HB3a.out.size))
  have KA_4 := Lib.hid (KA_3a.out.below' hb)
  clear hb HB3a KA_3a
  obtain ⟨w4a, hw4a⟩ : ∃ x, x = w4.alloc (.cells #[.int .i64 gb, .int .u64 (gv : Int), .string GD] 24) := ⟨_, rfl⟩
  obtain ⟨gb2, hgb2⟩ : ∃ x, x = w4.heap.size := ⟨_, rfl⟩
  have hba : Below w4.heap.size w4 w4a := hw4a ▸ (Below.refl _ w4).alloc (Nat.le_refl _) _
  have KB_4a : Hid (Sits w4a gb2 24 #[.int .i64 gb, .int .u64 (gv : Int), .string GD]) := Lib.hid (by rw [hw4a, hgb2]; exact Sits.fresh w4 _ _)
  have HB4a := Lib.hid (HB4.out.trans (hba.mono HB4.out.size))
  have KA_4a := Lib.hid (KA_4.out.below' hba)
  clear hba HB4 KA_4
  go_wp2_with fail
  rw [← hw4a, ← hgb2]
  clear hw4a hgb2
  (with_reducible refine (HU.out _).mono ?_)
  rintro e w5 ⟨rfl, hb⟩
  have HB5 := Lib.hid (HB4a.out.trans (hb.mono HB4a.out.size))
  have KB_5 := Lib.hid (KB_4a.out.below' hb)
  have KA_5 := Lib.hid (KA_4a.out.below' hb)
  clear hb HB4a KB_4a KA_4a
  go_wp2_with fail
  (with_reducible refine (HV.out _).mono ?_)
  rintro e w6 ⟨rfl, hb⟩
  have HB6 := Lib.hid (HB5.out.trans (hb.mono HB5.out.size))
  have KB_6 := Lib.hid (KB_5.out.below' hb)
  have KA_6 := Lib.hid (KA_5.out.below' hb)
  clear hb HB5 KB_5 KA_5
  go_wp2_with fail
  (with_reducible refine (HX.out _).mono ?_)
  rintro e w7 ⟨rfl, hb⟩
  have HB7 := Lib.hid (HB6.out.trans (hb.mono HB6.out.size))
  have KB_7 := Lib.hid (KB_6.out.below' hb)
  have KA_7 := Lib.hid (KA_6.out.below' hb)
  clear hb HB6 KB_6 KA_6
  obtain ⟨w7a, hw7a⟩ : ∃ x, x = w7.alloc (.cells #[.int .i64 xb, .int .u64 (xv : Int), .string XD] 24) := ⟨_, rfl⟩
  obtain ⟨gc, hgc⟩ : ∃ x, x = w7.heap.size := ⟨_, rfl⟩
  have hba : Below w7.heap.size w7 w7a := hw7a ▸ (Below.refl _ w7).alloc (Nat.le_refl _) _
  have KC_7a : Hid (Sits w7a gc 24 #[.int .i64 xb, .int .u64 (xv : Int), .string XD]) := Lib.hid (by rw [hw7a, hgc]; exact Sits.fresh w7 _ _)
  have HB7a := Lib.hid (HB7.out.trans (hba.mono HB7.out.size))
  have KB_7a := Lib.hid (KB_7.out.below' hba)
  have KA_7a := Lib.hid (KA_7.out.below' hba)
  clear hba HB7 KB_7 KA_7
  go_wp2_with fail
  rw [← hw7a, ← hgc]
  clear hw7a hgc
  (with_reducible refine (HY.out _).mono ?_)
  rintro e w8 ⟨rfl, hb⟩
  have HB8 := Lib.hid (HB7a.out.trans (hb.mono HB7a.out.size))
  have KC_8 := Lib.hid (KC_7a.out.below' hb)
  have KB_8 := Lib.hid (KB_7a.out.below' hb)
  have KA_8 := Lib.hid (KA_7a.out.below' hb)
  clear hb HB7a KC_7a KB_7a KA_7a
  obtain ⟨w8a, hw8a⟩ : ∃ x, x = w8.alloc (.cells #[.int .i64 xb, .int .u64 (xv : Int), .string XD] 24) := ⟨_, rfl⟩
  obtain ⟨gd2, hgd2⟩ : ∃ x, x = w8.heap.size := ⟨_, rfl⟩
  have hba : Below w8.heap.size w8 w8a := hw8a ▸ (Below.refl _ w8).alloc (Nat.le_refl _) _
  have KD_8a : Hid (Sits w8a gd2 24 #[.int .i64 xb, .int .u64 (xv : Int), .string XD]) := Lib.hid (by rw [hw8a, hgd2]; exact Sits.fresh w8 _ _)
  have HB8a := Lib.hid (HB8.out.trans (hba.mono HB8.out.size))
  have KC_8a := Lib.hid (KC_8.out.below' hba)
  have KB_8a := Lib.hid (KB_8.out.below' hba)
  have KA_8a := Lib.hid (KA_8.out.below' hba)
  clear hba HB8 KC_8 KB_8 KA_8
  go_wp2_with fail
  rw [← hw8a, ← hgd2]
  clear hw8a hgd2
  (with_reducible refine (HA.out _).mono ?_)
  rintro e w9 ⟨rfl, hb⟩
  have HB9 := Lib.hid (HB8a.out.trans (hb.mono HB8a.out.size))
  have KD_9 := Lib.hid (KD_8a.out.below' hb)
  have KC_9 := Lib.hid (KC_8a.out.below' hb)
  have KB_9 := Lib.hid (KB_8a.out.below' hb)
  have KA_9 := Lib.hid (KA_8a.out.below' hb)
  clear hb HB8a KD_8a KC_8a KB_8a KA_8a
  have c00 : w9.cell? ⟨gd2, 0, none⟩ = some (.int .i64 xb) := KD_9.out.cell 0
  have c01 : w9.cell? ⟨gd2, 1, none⟩ = some (.int .u64 (xv : Int)) := KD_9.out.cell 1
  have c02 : w9.cell? ⟨gd2, 2, none⟩ = some (.string XD) := KD_9.out.cell 2
  have c10 : w9.cell? ⟨gc, 0, none⟩ = some (.int .i64 xb) := KC_9.out.cell 0
  have c11 : w9.cell? ⟨gc, 1, none⟩ = some (.int .u64 (xv : Int)) := KC_9.out.cell 1
  have c12 : w9.cell? ⟨gc, 2, none⟩ = some (.string XD) := KC_9.out.cell 2
  have c20 : w9.cell? ⟨gb2, 0, none⟩ = some (.int .i64 gb) := KB_9.out.cell 0
  have c21 : w9.cell? ⟨gb2, 1, none⟩ = some (.int .u64 (gv : Int)) := KB_9.out.cell 1
  have c22 : w9.cell? ⟨gb2, 2, none⟩ = some (.string GD) := KB_9.out.cell 2
  have c30 : w9.cell? ⟨ga, 0, none⟩ = some (.int .i64 gb) := KA_9.out.cell 0
  have c31 : w9.cell? ⟨ga, 1, none⟩ = some (.int .u64 (gv : Int)) := KA_9.out.cell 1
  have c32 : w9.cell? ⟨ga, 2, none⟩ = some (.string GD) := KA_9.out.cell 2
  go_wp2
  go_ret
  exact ⟨rfl, HB9.out⟩
theorem blockTells_walk (v : Value) (i : Im) (n : Int) (_wn : (Lit.int .i64 n).wf = true) (b : ByteArray) (_wb : b.size ≤ maxLen) (w : World) (hi : ImIn i ∧ v = aggI i) :
    Calls Tryz.prog 3 #[v, .int .i64 n, .string b] w fun e w' => e = .returned (.bool true) ∧ Below w.heap.size w w' := by
  obtain ⟨hi, rfl⟩ := hi
  obtain ⟨l, rfl⟩ := as_str b
  by_cases h : 300 < i.d.length ∨ 300 < l.length
  · exact blockTells_long i n l w h
  · exact blockTells_short i n l w hi.v (fun e => h (.inl e)) (fun e => h (.inr e))

set_option maxRecDepth 100000 in
theorem blockTells_lifted (os : Os) (started : os.Started) (H : Type) (enc : TypeId × Value → H) :
    ReturnsInHanded {} Tryz.checked os 3 .any (Rows.blockTellsSpec.pre6 enc Tryz.prog Tryz.f3 Rows.blockTellsRow.domain false) (Rows.blockTellsSpec.post enc Tryz.prog Tryz.f3 false true false false) := by
  refine returnsInHanded_of_change (C := Tryz.checked) own started (by kernel_rfl) Tryz.func3
    (ChangeSpec.witness6 (enc := enc) (C := Tryz.checked) false ⟨#[], #[.agg #[.int .i64 0, .int .u64 0, .string ByteArray.empty], .int .i64 0, .string ByteArray.empty], []⟩ 8 (by kernel_rfl) (by kernel_rfl) (by kernel_rfl) (by kernel_rfl)) ?_
  intro W base args ds gs before hval0 hW _ _
  have hval : ∀ (j : Nat) t v, Tryz.f3.params[j]? = some t → args[j]? = some v → Value.okWide Tryz.prog W .any base t v := hval0
  have hW' := hW
  obtain ⟨p, q, hA0, hV, rfl, hfz, hnd⟩ := hW
  have hA : DataW.TrodAll enc Tryz.prog W 0 (fun _ => true) true Tryz.f3.params.toList args.toList ds p := hA0
  rw [Tryz.params3] at hA hval
  obtain ⟨v0, vs0, d0, ds0, p0, q0, hargs, rfl, rfl, h0, r0⟩ := trodAll_cons hA
  obtain ⟨v1, vs1, d1, ds1, p1, q1, rfl, rfl, rfl, h1, r1⟩ := trodAll_cons r0
  obtain ⟨v2, vs2, d2, ds2, p2, q2, rfl, rfl, rfl, h2, r2⟩ := trodAll_cons r1
  obtain ⟨rfl, rfl, rfl⟩ := trodAll_nil r2
  obtain rfl : args = #[v0, v1, v2] := by cases args; simp_all
  obtain ⟨rfl, rfl⟩ := trodVars_none hV
  have k0 := h0
  have lt0 : ∀ x ∈ p0, x.block < W.heap.size := by obtain ⟨m, hm⟩ := k0; exact DataW.trod_lt m _ _ _ hm
  have k1 := h1
  have lt1 : ∀ x ∈ p1, x.block < W.heap.size := by obtain ⟨m, hm⟩ := k1; exact DataW.trod_lt m _ _ _ hm
  have k2 := h2
  have lt2 : ∀ x ∈ p2, x.block < W.heap.size := by obtain ⟨m, hm⟩ := k2; exact DataW.trod_lt m _ _ _ hm
  obtain ⟨a0, w0⟩ := image_open (hval 0 24 v0 rfl rfl) k0
  obtain ⟨a1, rfl, rfl, rfl, w1⟩ := open_int Tryz.underlying3 (hval 1 3 v1 rfl rfl) h1
  obtain ⟨a2, rfl, rfl, rfl, w2⟩ := open_string Tryz.underlying9 (hval 2 9 v2 rfl rfl) h2
  clear hA0 hval0
  refine (blockTells_walk v0 a0 a1 w1 a2 w2 W w0).mono fun e W' ⟨he, bel⟩ => ?_
  subst he
  exact ⟨_, rfl, _, _, _, [], _, [], hW', trodAll_mk1 (shut_bool Tryz.underlying4 _), (trodAll_cons_mk (Below.trod laidOut (by kernel_rfl) (of_decide_eq_true (by kernel_rfl)) k0 bel lt0) (trodAll_cons_mk (Below.trod laidOut (by kernel_rfl) (of_decide_eq_true (by kernel_rfl)) k1 bel lt1) (trodAll_cons_mk (Below.trod laidOut (by kernel_rfl) (of_decide_eq_true (by kernel_rfl)) k2 bel lt2) trodAll_mk0))), rfl, bel.frame _, fun h => by cases h⟩

theorem blockTells_said : Rows.BlockTellsSaid :=
  OpenClaim.holds_of_wide 3 Tryz.f3 rfl rfl rfl rfl rfl rfl rfl ⟨rfl, rfl, rfl, rfl, rfl⟩ rfl rfl rfl rfl rfl (by kernel_rfl) Tryz.func3 (by kernel_rfl)
    (of_decide_eq_true (by kernel_rfl)) (by unfold Func.isWrapper; first | (rw [if_pos (by decide +kernel)]; kernel_rfl) | (rw [if_neg (by decide +kernel)]; exact ⟨rfl, rfl⟩))
    (fun os started H enc _ => blockTells_lifted os started H enc)
#print axioms blockTells_said
end Go.Proofs.YtmlhncheodpbpaaGreat
