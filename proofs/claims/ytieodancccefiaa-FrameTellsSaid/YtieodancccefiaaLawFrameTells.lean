/- The statement FrameTells of package sess: every frame as bytes, every bytes as a frame, as the document says; it holds of every frame and every text. -/
import Derived.Test.YtieodancccefiaaFrmL
import Derived.Test.YtieodancccefiaaSesJ
import Derived.ShutString
namespace Go.Proofs.Ytieodancccefiaa
open Go Go.RowKit Go.ChangeShapes Go.WideShapes Go.ChangeMaps Go.ChangeAt
set_option maxRecDepth 100000
set_option maxHeartbeats 4000000
set_option linter.unusedSimpArgs false

theorem frameTells_long (f : Frm) (b : List UInt8) (w : World) (h : 3100 < f.d.length ∨ 3200 < b.length) :
    Calls Try.prog 3 #[aggF f, .string (str b)] w fun e w' => e = .returned (.bool true) ∧ Below w.heap.size w w' := by
  have HA := Lib.hid alive15_any
  unfold aggF
  have hz := str_size f.d
  have hz2 := str_size b
  by_cases h1 : 3100 < f.d.length
  · have d1 : decide (3100 < ((str f.d).size : Int)) = true := decide_eq_true (by omega)
    clear h h1 hz hz2
    go_enter Try.func3, Try.ntmps3
    go_wp2_with fail
    (with_reducible refine (HA.out _).mono ?_)
    rintro e w1 ⟨rfl, hb⟩
    have HF := Lib.hid (((Below.refl w.heap.size w).alloc (Nat.le_refl _) _).trans (hb.mono (by simp)))
    clear hb
    go_wp2
    go_ret
    exact ⟨rfl, HF.out⟩
  · have d1 : decide (3100 < ((str f.d).size : Int)) = false := decide_eq_false (by omega)
    have d2 : decide (3200 < ((str b).size : Int)) = true := decide_eq_true (by omega)
    clear h h1 hz hz2
    go_enter Try.func3, Try.ntmps3
    go_wp2_with fail
    (with_reducible refine (HA.out _).mono ?_)
    rintro e w1 ⟨rfl, hb⟩
    have HF := Lib.hid (((Below.refl w.heap.size w).alloc (Nat.le_refl _) _).trans (hb.mono (by simp)))
    clear hb
    go_wp2
    go_ret
    exact ⟨rfl, HF.out⟩
theorem fput_cases (f : Frm) (hi : FrmIn f) : (∃ e, e ≠ 0 ∧ (fputF f).2 = e) ∨ ((fputF f).2 = 0 ∧ fgetF (fputF f).1 = (f, 0)) := by
  by_cases hb : badFr f = true
  · exact .inl ⟨1, by decide, by unfold fputF; rw [if_pos hb]⟩
  · have hb : badFr f = false := by simpa using hb
    by_cases hd : 3000 < f.d.length
    · exact .inl ⟨2, by decide, by unfold fputF; rw [hb, if_neg (by simp), if_pos hd]⟩
    · have := fput_ok hb hd
      exact .inr ⟨by rw [this], by rw [this]; exact fget_put hb hi hd⟩
theorem fput_len (f : Frm) : (fputF f).1.length ≤ 4000 := by
  unfold fputF
  split
  · simp
  · split
    · simp
    · rw [frmS_len]; omega
theorem frameTells_short (f : Frm) (hi : FrmIn f) (b : List UInt8) (w : World) (h1 : ¬ 3100 < f.d.length) (h2 : ¬ 3200 < b.length) :
    Calls Try.prog 3 #[aggF f, .string (str b)] w fun e w' => e = .returned (.bool true) ∧ Below w.heap.size w w' := by
  have HA := Lib.hid alive15_any
  have hpl := fput_len f
  have HP := Lib.hid (fput_any f hi (by omega))
  have HQ := Lib.hid (rfput_any f hi)
  have HG := Lib.hid (fget_any b (by omega))
  have HH := Lib.hid (rfget_any b (by omega))
  have HX := Lib.hid (fget_any (fputF f).1 (by omega))
  have HPL := Lib.hid (plain_any f)
  have hcase := fput_cases f hi
  have d1 : decide (3100 < ((str f.d).size : Int)) = false := decide_eq_false (by rw [str_size]; omega)
  have d2 : decide (3200 < ((str b).size : Int)) = false := decide_eq_false (by rw [str_size]; omega)
  obtain ⟨⟨pl, pe⟩, hp⟩ : ∃ x, x = fputF f := ⟨_, rfl⟩
  obtain ⟨⟨x, ge⟩, hg⟩ : ∃ x, x = fgetF b := ⟨_, rfl⟩
  rw [← hp] at HP HQ HX hcase
  rw [← hg] at HG HH
  simp only at HX hcase HP HQ HG HH
  have HPX := Lib.hid (plain_any x)
  obtain ⟨⟨u, ue⟩, hu⟩ : ∃ x, x = fgetF pl := ⟨_, rfl⟩
  rw [← hu] at HX hcase
  simp only at HX
  have hcase : pe ≠ 0 ∨ (pe = 0 ∧ u = f ∧ ue = 0) := by
    rcases hcase with ⟨e, h1, h2⟩ | ⟨h1, h2⟩
    · exact .inl (h2 ▸ h1)
    · exact .inr ⟨h1, congrArg Prod.fst h2, congrArg Prod.snd h2⟩
  clear hpl h1 h2 hp hg hu hi
  unfold aggF at HP HQ HG HH HX HPL HPX ⊢
  have HUF : Hid (u = f → str u.d = str f.d) := Lib.hid fun h => by rw [h]
  generalize str b = B at *
  obtain ⟨D, hD⟩ : ∃ D, D = str f.d := ⟨_, rfl⟩
  obtain ⟨XD, hXD⟩ : ∃ D, D = str x.d := ⟨_, rfl⟩
  obtain ⟨UD, hUD⟩ : ∃ D, D = str u.d := ⟨_, rfl⟩
  rw [← hD] at HP HQ HPL d1 HUF ⊢
  rw [← hXD] at HG HH HPX
  rw [← hUD] at HX HUF
  generalize str pl = PL at *
  clear hD hXD hUD

  obtain ⟨wa, hwa⟩ : ∃ wa, wa = w.alloc (.cells #[.int .i64 f.f, .int .i64 f.t, .int .i64 f.m, .int .i64 f.y, .int .i64 f.s, .int .i64 f.a, .string D, .bool f.h] 23) := ⟨_, rfl⟩
  have HS : Hid (Sits wa w.heap.size 23 #[.int .i64 f.f, .int .i64 f.t, .int .i64 f.m, .int .i64 f.y, .int .i64 f.s, .int .i64 f.a, .string D, .bool f.h]) := Lib.hid (hwa ▸ Sits.fresh w _ _)
  have HB : Hid (Below w.heap.size w wa) := Lib.hid (hwa ▸ (Below.refl _ w).alloc (Nat.le_refl _) _)
  have a0 : wa.cell? ⟨w.heap.size, 0, none⟩ = some (.int .i64 f.f) := HS.out.cell 0
  have a1 : wa.cell? ⟨w.heap.size, 1, none⟩ = some (.int .i64 f.t) := HS.out.cell 1
  have a2 : wa.cell? ⟨w.heap.size, 2, none⟩ = some (.int .i64 f.m) := HS.out.cell 2
  have a3 : wa.cell? ⟨w.heap.size, 3, none⟩ = some (.int .i64 f.y) := HS.out.cell 3
  have a4 : wa.cell? ⟨w.heap.size, 4, none⟩ = some (.int .i64 f.s) := HS.out.cell 4
  have a5 : wa.cell? ⟨w.heap.size, 5, none⟩ = some (.int .i64 f.a) := HS.out.cell 5
  have a6 : wa.cell? ⟨w.heap.size, 6, none⟩ = some (.string D) := HS.out.cell 6
  have a7 : wa.cell? ⟨w.heap.size, 7, none⟩ = some (.bool f.h) := HS.out.cell 7
  have al := HS.out.lt
  go_enter Try.func3, Try.ntmps3
  go_wp2_with fail
  rw [← hwa]
  clear hwa
  go_wp2_with fail
  clear a0 a1 a2 a3 a4 a5 a6 a7 al
  (with_reducible refine (HP.out _).mono ?_)
  rintro e w1 ⟨rfl, hb⟩
  have HBw1 := Lib.hid (HB.out.trans (hb.mono HB.out.size))
  have Kw1_0 := Lib.hid (HS.out.below' hb)
  clear hb HB HS
  have a0 : w1.cell? ⟨w.heap.size, 0, none⟩ = some (.int .i64 f.f) := Kw1_0.out.cell 0
  have a1 : w1.cell? ⟨w.heap.size, 1, none⟩ = some (.int .i64 f.t) := Kw1_0.out.cell 1
  have a2 : w1.cell? ⟨w.heap.size, 2, none⟩ = some (.int .i64 f.m) := Kw1_0.out.cell 2
  have a3 : w1.cell? ⟨w.heap.size, 3, none⟩ = some (.int .i64 f.y) := Kw1_0.out.cell 3
  have a4 : w1.cell? ⟨w.heap.size, 4, none⟩ = some (.int .i64 f.s) := Kw1_0.out.cell 4
  have a5 : w1.cell? ⟨w.heap.size, 5, none⟩ = some (.int .i64 f.a) := Kw1_0.out.cell 5
  have a6 : w1.cell? ⟨w.heap.size, 6, none⟩ = some (.string D) := Kw1_0.out.cell 6
  have a7 : w1.cell? ⟨w.heap.size, 7, none⟩ = some (.bool f.h) := Kw1_0.out.cell 7
  have al := Kw1_0.out.lt
  go_wp2_with fail
  clear a0 a1 a2 a3 a4 a5 a6 a7 al
  (with_reducible refine (HPL.out _).mono ?_)
  rintro e w2 ⟨rfl, hb⟩
  have HBw2 := Lib.hid (HBw1.out.trans (hb.mono HBw1.out.size))
  have Kw2_0 := Lib.hid (Kw1_0.out.below' hb)
  clear hb HBw1 Kw1_0
  go_wp2_with fail
  (with_reducible refine (HQ.out _).mono ?_)
  rintro e w3 ⟨rfl, hb⟩
  have HBw3 := Lib.hid (HBw2.out.trans (hb.mono HBw2.out.size))
  have Kw3_0 := Lib.hid (Kw2_0.out.below' hb)
  clear hb HBw2 Kw2_0
  go_wp2_with fail
  (with_reducible refine (HG.out _).mono ?_)
  rintro e w4 ⟨rfl, hb⟩
  have HBw4 := Lib.hid (HBw3.out.trans (hb.mono HBw3.out.size))
  have Kw4_0 := Lib.hid (Kw3_0.out.below' hb)
  clear hb HBw3 Kw3_0
  obtain ⟨w5, hw5⟩ : ∃ W9, W9 = w4.alloc (.cells #[.int .i64 x.f, .int .i64 x.t, .int .i64 x.m, .int .i64 x.y, .int .i64 x.s, .int .i64 x.a, .string XD, .bool x.h] 23) := ⟨_, rfl⟩
  obtain ⟨gx, hgx⟩ : ∃ q9, q9 = w4.heap.size := ⟨_, rfl⟩
  have hba : Below w4.heap.size w4 w5 := hw5 ▸ (Below.refl _ w4).alloc (Nat.le_refl _) _
  have KNw5 : Hid (Sits w5 gx 23 #[.int .i64 x.f, .int .i64 x.t, .int .i64 x.m, .int .i64 x.y, .int .i64 x.s, .int .i64 x.a, .string XD, .bool x.h]) := Lib.hid (by rw [hw5, hgx]; exact Sits.fresh w4 _ _)
  have HBw5 := Lib.hid (HBw4.out.trans (hba.mono HBw4.out.size))
  have Kw5_0 := Lib.hid (Kw4_0.out.below' hba)
  clear hba HBw4 Kw4_0
  go_wp2_with fail
  rw [← hw5]
  try rw [← hgx]
  clear hw5 hgx
  (with_reducible refine (HH.out _).mono ?_)
  rintro e w6 ⟨rfl, hb⟩
  have HBw6 := Lib.hid (HBw5.out.trans (hb.mono HBw5.out.size))
  have Kw6_0 := Lib.hid (Kw5_0.out.below' hb)
  have Kw6_1 := Lib.hid (KNw5.out.below' hb)
  clear hb HBw5 Kw5_0 KNw5
  obtain ⟨w7, hw7⟩ : ∃ W9, W9 = w6.alloc (.cells #[.int .i64 x.f, .int .i64 x.t, .int .i64 x.m, .int .i64 x.y, .int .i64 x.s, .int .i64 x.a, .string XD, .bool x.h] 29) := ⟨_, rfl⟩
  obtain ⟨gy, hgy⟩ : ∃ q9, q9 = w6.heap.size := ⟨_, rfl⟩
  have hba : Below w6.heap.size w6 w7 := hw7 ▸ (Below.refl _ w6).alloc (Nat.le_refl _) _
  have KNw7 : Hid (Sits w7 gy 29 #[.int .i64 x.f, .int .i64 x.t, .int .i64 x.m, .int .i64 x.y, .int .i64 x.s, .int .i64 x.a, .string XD, .bool x.h]) := Lib.hid (by rw [hw7, hgy]; exact Sits.fresh w6 _ _)
  have HBw7 := Lib.hid (HBw6.out.trans (hba.mono HBw6.out.size))
  have Kw7_0 := Lib.hid (Kw6_0.out.below' hba)
  have Kw7_1 := Lib.hid (Kw6_1.out.below' hba)
  clear hba HBw6 Kw6_0 Kw6_1
  go_wp2_with fail
  rw [← hw7]
  try rw [← hgy]
  clear hw7 hgy
  (with_reducible refine (HX.out _).mono ?_)
  rintro e w8 ⟨rfl, hb⟩
  have HBw8 := Lib.hid (HBw7.out.trans (hb.mono HBw7.out.size))
  have Kw8_0 := Lib.hid (Kw7_0.out.below' hb)
  have Kw8_1 := Lib.hid (Kw7_1.out.below' hb)
  have Kw8_2 := Lib.hid (KNw7.out.below' hb)
  clear hb HBw7 Kw7_0 Kw7_1 KNw7
  obtain ⟨w9, hw9⟩ : ∃ W9, W9 = w8.alloc (.cells #[.int .i64 u.f, .int .i64 u.t, .int .i64 u.m, .int .i64 u.y, .int .i64 u.s, .int .i64 u.a, .string UD, .bool u.h] 23) := ⟨_, rfl⟩
  obtain ⟨gu, hgu⟩ : ∃ q9, q9 = w8.heap.size := ⟨_, rfl⟩
  have hba : Below w8.heap.size w8 w9 := hw9 ▸ (Below.refl _ w8).alloc (Nat.le_refl _) _
  have KNw9 : Hid (Sits w9 gu 23 #[.int .i64 u.f, .int .i64 u.t, .int .i64 u.m, .int .i64 u.y, .int .i64 u.s, .int .i64 u.a, .string UD, .bool u.h]) := Lib.hid (by rw [hw9, hgu]; exact Sits.fresh w8 _ _)
  have HBw9 := Lib.hid (HBw8.out.trans (hba.mono HBw8.out.size))
  have Kw9_0 := Lib.hid (Kw8_0.out.below' hba)
  have Kw9_1 := Lib.hid (Kw8_1.out.below' hba)
  have Kw9_2 := Lib.hid (Kw8_2.out.below' hba)
  clear hba HBw8 Kw8_0 Kw8_1 Kw8_2
  go_wp2_with fail
  rw [← hw9]
  try rw [← hgu]
  clear hw9 hgu
  have HCE : Hid (∀ W, Below w9.heap.size w9 W → Sits W w.heap.size 23 #[.int .i64 f.f, .int .i64 f.t, .int .i64 f.m, .int .i64 f.y, .int .i64 f.s, .int .i64 f.a, .string D, .bool f.h] ∧ Sits W gx 23 #[.int .i64 x.f, .int .i64 x.t, .int .i64 x.m, .int .i64 x.y, .int .i64 x.s, .int .i64 x.a, .string XD, .bool x.h] ∧ Sits W gy 29 #[.int .i64 x.f, .int .i64 x.t, .int .i64 x.m, .int .i64 x.y, .int .i64 x.s, .int .i64 x.a, .string XD, .bool x.h] ∧ Sits W gu 23 #[.int .i64 u.f, .int .i64 u.t, .int .i64 u.m, .int .i64 u.y, .int .i64 u.s, .int .i64 u.a, .string UD, .bool u.h]) := Lib.hid fun W hW => ⟨Kw9_0.out.below' hW, Kw9_1.out.below' hW, Kw9_2.out.below' hW, KNw9.out.below' hW⟩
  have HBE := Lib.hid HBw9.out
  clear HBw9 Kw9_0 Kw9_1 Kw9_2 KNw9 HP HQ HG HH HX HPL
  rcases hcase with h0 | ⟨h0, hU, h3⟩
  · have d9 : (pe != 0) = true := bne_iff_ne.2 h0
    clear h0 HUF
    refine wp_region_ex (by kernel_rfl) (fun W => Below w9.heap.size w9 W) (fun W W' => Below W.heap.size W W')
      [[], [(51, some 0)], [(5, none), (52, some 1)], [(7, none), (52, some 1)], [(52, some 1), (53, some 2), (54, some 3)], [(52, some 1), (55, some 4)], [(56, some 5)], [(6, none), (57, some 6)], [(8, none), (57, some 6)], [(57, some 6), (58, some 7), (59, some 8)], [(57, some 6), (60, some 9)], [(61, some 10)], [(9, none), (62, some 11)], [(62, some 11), (63, some 12)], [(11, none), (62, some 11)], [(62, some 11), (64, some 13), (65, some 14)], [(62, some 11), (66, some 15)], [(67, some 16)], [(10, none), (68, some 17)], [(12, none), (68, some 17)], [(68, some 17), (69, some 18), (70, some 19)], [(68, some 17), (71, some 20)], [(72, some 21)], [(6, none), (73, some 22)], [(73, some 22), (74, some 23)], [(73, some 22), (75, some 24)], [(14, none), (76, some 25)], [(76, some 25), (77, some 26)], [(76, some 25), (78, some 27)], [(13, none), (79, some 28)], [(2, none), (79, some 28)], [(79, some 28), (80, some 29), (81, some 30)], [(76, some 25), (79, some 28), (82, some 31)], [(73, some 22), (76, some 25), (83, some 32)], [(73, some 22), (84, some 33)], [(85, some 34)]]
      [none, none, none, none, some 35, none, none, none, none, none, none, none, none, none, none, none, none, none, none, none, none, none, none, none, none, none, none, none, none, none, none, none, none, none, none, none, none, none, none, none, none, none, none, none, none, none, none, none, none, none, none, some 0, some 1, some 2, some 3, some 4, some 5, some 6, some 7, some 8, some 9, some 10, some 11, some 12, some 13, some 14, some 15, some 16, some 17, some 18, some 19, some 20, some 21, some 22, some 23, some 24, some 25, some 26, some 27, some 28, some 29, some 30, some 31, some 32, some 33, some 34] (by kernel_rfl) (by kernel_rfl) ((Below.refl _ _).drew) ?_
    refine ex_callx (.bool true) (fun a' W hR hF => ?_) ?_
    · skip
      simp only [FactsOf, List.nil_append, List.cons_append, List.getD_cons_zero, List.getD_cons_succ, exists_eq_left, and_true, List.getElem?_toArray, List.getElem?_cons_zero, List.getElem?_cons_succ] at hF
      refine ⟨by simp [Region.wanted, yielded, hF], 9, #[], by go_simp, (HA.out W).mono fun e w' ⟨he, hb⟩ => ⟨he, hR.trans (hb.mono hR.size), hb⟩⟩
    iterate 11
      refine ex_pure (c := ?_) (fun _ _ => Below.refl _ _) ?_ ?_
      rotate_left
      · intro a' W hR hF
        simp only [FactsOf, List.nil_append, List.cons_append, List.getD_cons_zero, List.getD_cons_succ, exists_eq_left, and_true, List.getElem?_toArray, List.getElem?_cons_zero, List.getElem?_cons_succ] at hF
        refine ⟨?_, ?_⟩
        · simp [Region.wanted, yielded, hF]
        · go_simp
          with_reducible rfl
    iterate 1
      refine ex_pure (c := ?_) (fun _ _ => Below.refl _ _) ?_ ?_
      rotate_left
      · intro a' W hR hF
        simp only [FactsOf, List.nil_append, List.cons_append, List.getD_cons_zero, List.getD_cons_succ, exists_eq_left, and_true, List.getElem?_toArray, List.getElem?_cons_zero, List.getElem?_cons_succ] at hF
        have hs := (HCE.out W hR).2.1
        have hl := hs.lt
        have c0 : W.cell? ⟨gx, 0, none⟩ = some (.int .i64 x.f) := hs.cell 0
        have c1 : W.cell? ⟨gx, 1, none⟩ = some (.int .i64 x.t) := hs.cell 1
        have c2 : W.cell? ⟨gx, 2, none⟩ = some (.int .i64 x.m) := hs.cell 2
        have c3 : W.cell? ⟨gx, 3, none⟩ = some (.int .i64 x.y) := hs.cell 3
        have c4 : W.cell? ⟨gx, 4, none⟩ = some (.int .i64 x.s) := hs.cell 4
        have c5 : W.cell? ⟨gx, 5, none⟩ = some (.int .i64 x.a) := hs.cell 5
        have c6 : W.cell? ⟨gx, 6, none⟩ = some (.string XD) := hs.cell 6
        have c7 : W.cell? ⟨gx, 7, none⟩ = some (.bool x.h) := hs.cell 7
        refine ⟨?_, ?_⟩
        · simp [Region.wanted, yielded, hF]
        · go_simp
          with_reducible rfl
    refine ex_callx (.agg #[.int .i64 x.f, .int .i64 x.t, .int .i64 x.m, .int .i64 x.y, .int .i64 x.s, .int .i64 x.a, .string XD, .bool x.h]) (fun a' W hR hF => ?_) ?_
    · skip
      simp only [FactsOf, List.nil_append, List.cons_append, List.getD_cons_zero, List.getD_cons_succ, exists_eq_left, and_true, List.getElem?_toArray, List.getElem?_cons_zero, List.getElem?_cons_succ] at hF
      refine ⟨by simp [Region.wanted, yielded, hF], 12, #[.agg #[.int .i64 x.f, .int .i64 x.t, .int .i64 x.m, .int .i64 x.y, .int .i64 x.s, .int .i64 x.a, .string XD, .bool x.h]], by go_simp, (HPX.out W).mono fun e w' ⟨he, hb⟩ => ⟨he, hR.trans (hb.mono hR.size), hb⟩⟩
    iterate 1
      refine ex_pure (c := ?_) (fun _ _ => Below.refl _ _) ?_ ?_
      rotate_left
      · intro a' W hR hF
        simp only [FactsOf, List.nil_append, List.cons_append, List.getD_cons_zero, List.getD_cons_succ, exists_eq_left, and_true, List.getElem?_toArray, List.getElem?_cons_zero, List.getElem?_cons_succ] at hF
        have hs := (HCE.out W hR).2.2.1
        have hl := hs.lt
        have c0 : W.cell? ⟨gy, 0, none⟩ = some (.int .i64 x.f) := hs.cell 0
        have c1 : W.cell? ⟨gy, 1, none⟩ = some (.int .i64 x.t) := hs.cell 1
        have c2 : W.cell? ⟨gy, 2, none⟩ = some (.int .i64 x.m) := hs.cell 2
        have c3 : W.cell? ⟨gy, 3, none⟩ = some (.int .i64 x.y) := hs.cell 3
        have c4 : W.cell? ⟨gy, 4, none⟩ = some (.int .i64 x.s) := hs.cell 4
        have c5 : W.cell? ⟨gy, 5, none⟩ = some (.int .i64 x.a) := hs.cell 5
        have c6 : W.cell? ⟨gy, 6, none⟩ = some (.string XD) := hs.cell 6
        have c7 : W.cell? ⟨gy, 7, none⟩ = some (.bool x.h) := hs.cell 7
        refine ⟨?_, ?_⟩
        · simp [Region.wanted, yielded, hF]
        · go_simp
          with_reducible rfl
    iterate 11
      refine ex_pure (c := ?_) (fun _ _ => Below.refl _ _) ?_ ?_
      rotate_left
      · intro a' W hR hF
        simp only [FactsOf, List.nil_append, List.cons_append, List.getD_cons_zero, List.getD_cons_succ, exists_eq_left, and_true, List.getElem?_toArray, List.getElem?_cons_zero, List.getElem?_cons_succ] at hF
        refine ⟨?_, ?_⟩
        · simp [Region.wanted, yielded, hF]
        · go_simp
          with_reducible rfl
    iterate 3
      refine ex_skip (fun _ _ => Below.refl _ _) ?_ ?_
      · intro a' W hR hF
        simp only [FactsOf, List.nil_append, List.cons_append, List.getD_cons_zero, List.getD_cons_succ, exists_eq_left, and_true, List.getElem?_toArray, List.getElem?_cons_zero, List.getElem?_cons_succ] at hF
        simp [Region.wanted, yielded, hF]
    iterate 3
      refine ex_skip (fun _ _ => Below.refl _ _) ?_ ?_
      · intro a' W hR hF
        simp only [FactsOf, List.nil_append, List.cons_append, List.getD_cons_zero, List.getD_cons_succ, exists_eq_left, and_true, List.getElem?_toArray, List.getElem?_cons_zero, List.getElem?_cons_succ] at hF
        simp [Region.wanted, yielded, hF, undef]
    iterate 1
      refine ex_skip (fun _ _ => Below.refl _ _) ?_ ?_
      · intro a' W hR hF
        simp only [FactsOf, List.nil_append, List.cons_append, List.getD_cons_zero, List.getD_cons_succ, exists_eq_left, and_true, List.getElem?_toArray, List.getElem?_cons_zero, List.getElem?_cons_succ] at hF
        simp [Region.wanted, yielded, hF]
    iterate 3
      refine ex_pure (c := ?_) (fun _ _ => Below.refl _ _) ?_ ?_
      rotate_left
      · intro a' W hR hF
        simp only [FactsOf, List.nil_append, List.cons_append, List.getD_cons_zero, List.getD_cons_succ, exists_eq_left, and_true, List.getElem?_toArray, List.getElem?_cons_zero, List.getElem?_cons_succ] at hF
        refine ⟨?_, ?_⟩
        · simp [Region.wanted, yielded, hF]
        · go_simp
          with_reducible rfl
    show ∀ W, _ → _
    intro wz hR2
    simp only [FinOf, List.nil_append, List.cons_append, List.getD_cons_zero, List.getD_cons_succ, forall_eq, forall_exists_index, and_imp, Nat.reduceAdd, Array.getD_eq_getD_getElem?, List.getElem?_toArray, List.getElem?_cons_zero, List.getElem?_cons_succ, Option.getD_some]
    have HZ := Lib.hid (HBE.out.trans (hR2.mono HBE.out.size))
    clear hR2 HCE
    intros
    go_wp2
    go_ret
    exact ⟨rfl, HZ.out⟩
  · have hD := HUF.out hU
    have hU2 : f = u := hU.symm
    subst h0 hU2 h3
    rw [hD] at HCE
    clear hD HUF hU
    refine wp_region_ex (by kernel_rfl) (fun W => Below w9.heap.size w9 W) (fun W W' => Below W.heap.size W W')
      [[], [(51, some 0)], [(5, none), (52, some 1)], [(7, none), (52, some 1)], [(52, some 1), (53, some 2), (54, some 3)], [(52, some 1), (55, some 4)], [(56, some 5)], [(6, none), (57, some 6)], [(8, none), (57, some 6)], [(57, some 6), (58, some 7), (59, some 8)], [(57, some 6), (60, some 9)], [(61, some 10)], [(9, none), (62, some 11)], [(62, some 11), (63, some 12)], [(11, none), (62, some 11)], [(62, some 11), (64, some 13), (65, some 14)], [(62, some 11), (66, some 15)], [(67, some 16)], [(10, none), (68, some 17)], [(12, none), (68, some 17)], [(68, some 17), (69, some 18), (70, some 19)], [(68, some 17), (71, some 20)], [(72, some 21)], [(6, none), (73, some 22)], [(73, some 22), (74, some 23)], [(73, some 22), (75, some 24)], [(14, none), (76, some 25)], [(76, some 25), (77, some 26)], [(76, some 25), (78, some 27)], [(13, none), (79, some 28)], [(2, none), (79, some 28)], [(79, some 28), (80, some 29), (81, some 30)], [(76, some 25), (79, some 28), (82, some 31)], [(73, some 22), (76, some 25), (83, some 32)], [(73, some 22), (84, some 33)], [(85, some 34)]]
      [none, none, none, none, some 35, none, none, none, none, none, none, none, none, none, none, none, none, none, none, none, none, none, none, none, none, none, none, none, none, none, none, none, none, none, none, none, none, none, none, none, none, none, none, none, none, none, none, none, none, none, none, some 0, some 1, some 2, some 3, some 4, some 5, some 6, some 7, some 8, some 9, some 10, some 11, some 12, some 13, some 14, some 15, some 16, some 17, some 18, some 19, some 20, some 21, some 22, some 23, some 24, some 25, some 26, some 27, some 28, some 29, some 30, some 31, some 32, some 33, some 34] (by kernel_rfl) (by kernel_rfl) ((Below.refl _ _).drew) ?_
    refine ex_callx (.bool true) (fun a' W hR hF => ?_) ?_
    · skip
      simp only [FactsOf, List.nil_append, List.cons_append, List.getD_cons_zero, List.getD_cons_succ, exists_eq_left, and_true, List.getElem?_toArray, List.getElem?_cons_zero, List.getElem?_cons_succ] at hF
      refine ⟨by simp [Region.wanted, yielded, hF], 9, #[], by go_simp, (HA.out W).mono fun e w' ⟨he, hb⟩ => ⟨he, hR.trans (hb.mono hR.size), hb⟩⟩
    iterate 11
      refine ex_pure (c := ?_) (fun _ _ => Below.refl _ _) ?_ ?_
      rotate_left
      · intro a' W hR hF
        simp only [FactsOf, List.nil_append, List.cons_append, List.getD_cons_zero, List.getD_cons_succ, exists_eq_left, and_true, List.getElem?_toArray, List.getElem?_cons_zero, List.getElem?_cons_succ] at hF
        refine ⟨?_, ?_⟩
        · simp [Region.wanted, yielded, hF]
        · go_simp
          with_reducible rfl
    iterate 1
      refine ex_pure (c := ?_) (fun _ _ => Below.refl _ _) ?_ ?_
      rotate_left
      · intro a' W hR hF
        simp only [FactsOf, List.nil_append, List.cons_append, List.getD_cons_zero, List.getD_cons_succ, exists_eq_left, and_true, List.getElem?_toArray, List.getElem?_cons_zero, List.getElem?_cons_succ] at hF
        have hs := (HCE.out W hR).2.1
        have hl := hs.lt
        have c0 : W.cell? ⟨gx, 0, none⟩ = some (.int .i64 x.f) := hs.cell 0
        have c1 : W.cell? ⟨gx, 1, none⟩ = some (.int .i64 x.t) := hs.cell 1
        have c2 : W.cell? ⟨gx, 2, none⟩ = some (.int .i64 x.m) := hs.cell 2
        have c3 : W.cell? ⟨gx, 3, none⟩ = some (.int .i64 x.y) := hs.cell 3
        have c4 : W.cell? ⟨gx, 4, none⟩ = some (.int .i64 x.s) := hs.cell 4
        have c5 : W.cell? ⟨gx, 5, none⟩ = some (.int .i64 x.a) := hs.cell 5
        have c6 : W.cell? ⟨gx, 6, none⟩ = some (.string XD) := hs.cell 6
        have c7 : W.cell? ⟨gx, 7, none⟩ = some (.bool x.h) := hs.cell 7
        refine ⟨?_, ?_⟩
        · simp [Region.wanted, yielded, hF]
        · go_simp
          with_reducible rfl
    refine ex_callx (.agg #[.int .i64 x.f, .int .i64 x.t, .int .i64 x.m, .int .i64 x.y, .int .i64 x.s, .int .i64 x.a, .string XD, .bool x.h]) (fun a' W hR hF => ?_) ?_
    · skip
      simp only [FactsOf, List.nil_append, List.cons_append, List.getD_cons_zero, List.getD_cons_succ, exists_eq_left, and_true, List.getElem?_toArray, List.getElem?_cons_zero, List.getElem?_cons_succ] at hF
      refine ⟨by simp [Region.wanted, yielded, hF], 12, #[.agg #[.int .i64 x.f, .int .i64 x.t, .int .i64 x.m, .int .i64 x.y, .int .i64 x.s, .int .i64 x.a, .string XD, .bool x.h]], by go_simp, (HPX.out W).mono fun e w' ⟨he, hb⟩ => ⟨he, hR.trans (hb.mono hR.size), hb⟩⟩
    iterate 1
      refine ex_pure (c := ?_) (fun _ _ => Below.refl _ _) ?_ ?_
      rotate_left
      · intro a' W hR hF
        simp only [FactsOf, List.nil_append, List.cons_append, List.getD_cons_zero, List.getD_cons_succ, exists_eq_left, and_true, List.getElem?_toArray, List.getElem?_cons_zero, List.getElem?_cons_succ] at hF
        have hs := (HCE.out W hR).2.2.1
        have hl := hs.lt
        have c0 : W.cell? ⟨gy, 0, none⟩ = some (.int .i64 x.f) := hs.cell 0
        have c1 : W.cell? ⟨gy, 1, none⟩ = some (.int .i64 x.t) := hs.cell 1
        have c2 : W.cell? ⟨gy, 2, none⟩ = some (.int .i64 x.m) := hs.cell 2
        have c3 : W.cell? ⟨gy, 3, none⟩ = some (.int .i64 x.y) := hs.cell 3
        have c4 : W.cell? ⟨gy, 4, none⟩ = some (.int .i64 x.s) := hs.cell 4
        have c5 : W.cell? ⟨gy, 5, none⟩ = some (.int .i64 x.a) := hs.cell 5
        have c6 : W.cell? ⟨gy, 6, none⟩ = some (.string XD) := hs.cell 6
        have c7 : W.cell? ⟨gy, 7, none⟩ = some (.bool x.h) := hs.cell 7
        refine ⟨?_, ?_⟩
        · simp [Region.wanted, yielded, hF]
        · go_simp
          with_reducible rfl
    iterate 11
      refine ex_pure (c := ?_) (fun _ _ => Below.refl _ _) ?_ ?_
      rotate_left
      · intro a' W hR hF
        simp only [FactsOf, List.nil_append, List.cons_append, List.getD_cons_zero, List.getD_cons_succ, exists_eq_left, and_true, List.getElem?_toArray, List.getElem?_cons_zero, List.getElem?_cons_succ] at hF
        refine ⟨?_, ?_⟩
        · simp [Region.wanted, yielded, hF]
        · go_simp
          with_reducible rfl
    iterate 3
      refine ex_pure (c := ?_) (fun _ _ => Below.refl _ _) ?_ ?_
      rotate_left
      · intro a' W hR hF
        simp only [FactsOf, List.nil_append, List.cons_append, List.getD_cons_zero, List.getD_cons_succ, exists_eq_left, and_true, List.getElem?_toArray, List.getElem?_cons_zero, List.getElem?_cons_succ] at hF
        refine ⟨?_, ?_⟩
        · simp [Region.wanted, yielded, hF]
        · go_simp
          with_reducible rfl
    iterate 1
      refine ex_pure (c := ?_) (fun _ _ => Below.refl _ _) ?_ ?_
      rotate_left
      · intro a' W hR hF
        simp only [FactsOf, List.nil_append, List.cons_append, List.getD_cons_zero, List.getD_cons_succ, exists_eq_left, and_true, List.getElem?_toArray, List.getElem?_cons_zero, List.getElem?_cons_succ] at hF
        have hs := (HCE.out W hR).2.2.2
        have hl := hs.lt
        have c0 : W.cell? ⟨gu, 0, none⟩ = some (.int .i64 f.f) := hs.cell 0
        have c1 : W.cell? ⟨gu, 1, none⟩ = some (.int .i64 f.t) := hs.cell 1
        have c2 : W.cell? ⟨gu, 2, none⟩ = some (.int .i64 f.m) := hs.cell 2
        have c3 : W.cell? ⟨gu, 3, none⟩ = some (.int .i64 f.y) := hs.cell 3
        have c4 : W.cell? ⟨gu, 4, none⟩ = some (.int .i64 f.s) := hs.cell 4
        have c5 : W.cell? ⟨gu, 5, none⟩ = some (.int .i64 f.a) := hs.cell 5
        have c6 : W.cell? ⟨gu, 6, none⟩ = some (.string D) := hs.cell 6
        have c7 : W.cell? ⟨gu, 7, none⟩ = some (.bool f.h) := hs.cell 7
        refine ⟨?_, ?_⟩
        · simp [Region.wanted, yielded, hF]
        · go_simp
          with_reducible rfl
    iterate 1
      refine ex_pure (c := ?_) (fun _ _ => Below.refl _ _) ?_ ?_
      rotate_left
      · intro a' W hR hF
        simp only [FactsOf, List.nil_append, List.cons_append, List.getD_cons_zero, List.getD_cons_succ, exists_eq_left, and_true, List.getElem?_toArray, List.getElem?_cons_zero, List.getElem?_cons_succ] at hF
        have hs := (HCE.out W hR).1
        have hl := hs.lt
        have c0 : W.cell? ⟨w.heap.size, 0, none⟩ = some (.int .i64 f.f) := hs.cell 0
        have c1 : W.cell? ⟨w.heap.size, 1, none⟩ = some (.int .i64 f.t) := hs.cell 1
        have c2 : W.cell? ⟨w.heap.size, 2, none⟩ = some (.int .i64 f.m) := hs.cell 2
        have c3 : W.cell? ⟨w.heap.size, 3, none⟩ = some (.int .i64 f.y) := hs.cell 3
        have c4 : W.cell? ⟨w.heap.size, 4, none⟩ = some (.int .i64 f.s) := hs.cell 4
        have c5 : W.cell? ⟨w.heap.size, 5, none⟩ = some (.int .i64 f.a) := hs.cell 5
        have c6 : W.cell? ⟨w.heap.size, 6, none⟩ = some (.string D) := hs.cell 6
        have c7 : W.cell? ⟨w.heap.size, 7, none⟩ = some (.bool f.h) := hs.cell 7
        refine ⟨?_, ?_⟩
        · simp [Region.wanted, yielded, hF]
        · go_simp
          with_reducible rfl
    iterate 5
      refine ex_pure (c := ?_) (fun _ _ => Below.refl _ _) ?_ ?_
      rotate_left
      · intro a' W hR hF
        simp only [FactsOf, List.nil_append, List.cons_append, List.getD_cons_zero, List.getD_cons_succ, exists_eq_left, and_true, List.getElem?_toArray, List.getElem?_cons_zero, List.getElem?_cons_succ] at hF
        refine ⟨?_, ?_⟩
        · simp [Region.wanted, yielded, hF]
        · go_simp
          with_reducible rfl
    show ∀ W, _ → _
    intro wz hR2
    simp only [FinOf, List.nil_append, List.cons_append, List.getD_cons_zero, List.getD_cons_succ, forall_eq, forall_exists_index, and_imp, Nat.reduceAdd, Array.getD_eq_getD_getElem?, List.getElem?_toArray, List.getElem?_cons_zero, List.getElem?_cons_succ, Option.getD_some]
    have HZ := Lib.hid (HBE.out.trans (hR2.mono HBE.out.size))
    clear hR2 HCE
    intros
    go_wp2
    go_ret
    exact ⟨rfl, HZ.out⟩
theorem frameTells_walk (v : Value) (f : Frm) (b : ByteArray) (_wb : b.size ≤ maxLen) (w : World) (hi : FrmIn f ∧ f.d.length ≤ 9223372036854775807 ∧ v = aggF f) :
    Calls Try.prog 3 #[v, .string b] w fun e w' => e = .returned (.bool true) ∧ Below w.heap.size w w' := by
  obtain ⟨hi, -, rfl⟩ := hi
  obtain ⟨l, rfl⟩ := as_str b
  by_cases h : 3100 < f.d.length ∨ 3200 < l.length
  · exact frameTells_long f l w h
  · exact frameTells_short f hi l w (fun e => h (.inl e)) (fun e => h (.inr e))

set_option maxRecDepth 100000 in
theorem frameTells_lifted (os : Os) (started : os.Started) (H : Type) (enc : TypeId × Value → H) :
    ReturnsInHanded {} Try.checked os 3 .any (Rows.frameTellsSpec.pre6 enc Try.prog Try.f3 Rows.frameTellsRow.domain false) (Rows.frameTellsSpec.post enc Try.prog Try.f3 false true false false) := by
  refine returnsInHanded_of_change (C := Try.checked) own started (by kernel_rfl) Try.func3
    (ChangeSpec.witness6 (enc := enc) (C := Try.checked) false ⟨#[], #[.agg #[.int .i64 0, .int .i64 0, .int .i64 0, .int .i64 0, .int .i64 0, .int .i64 0, .string ByteArray.empty, .bool false], .string ByteArray.empty], []⟩ 8 (by kernel_rfl) (by kernel_rfl) (by kernel_rfl) (by kernel_rfl)) ?_
  intro W base args ds gs before hval0 hW _ _
  have hval : ∀ (j : Nat) t v, Try.f3.params[j]? = some t → args[j]? = some v → Value.okWide Try.prog W .any base t v := hval0
  have hW' := hW
  obtain ⟨p, q, hA0, hV, rfl, hfz, hnd⟩ := hW
  have hA : DataW.TrodAll enc Try.prog W 0 (fun _ => true) true Try.f3.params.toList args.toList ds p := hA0
  rw [Try.params3] at hA hval
  obtain ⟨v0, vs0, d0, ds0, p0, q0, hargs, rfl, rfl, h0, r0⟩ := trodAll_cons hA
  obtain ⟨v1, vs1, d1, ds1, p1, q1, rfl, rfl, rfl, h1, r1⟩ := trodAll_cons r0
  obtain ⟨rfl, rfl, rfl⟩ := trodAll_nil r1
  obtain rfl : args = #[v0, v1] := by cases args; simp_all
  obtain ⟨rfl, rfl⟩ := trodVars_none hV
  have k0 := h0
  have lt0 : ∀ x ∈ p0, x.block < W.heap.size := by obtain ⟨m, hm⟩ := k0; exact DataW.trod_lt m _ _ _ hm
  have k1 := h1
  have lt1 : ∀ x ∈ p1, x.block < W.heap.size := by obtain ⟨m, hm⟩ := k1; exact DataW.trod_lt m _ _ _ hm
  obtain ⟨a0, w0⟩ := frame_open (hval 0 23 v0 rfl rfl) k0
  obtain ⟨a1, rfl, rfl, rfl, w1⟩ := open_string Try.underlying9 (hval 1 9 v1 rfl rfl) h1
  clear hA0 hval0
  refine (frameTells_walk v0 a0 a1 w1 W w0).mono fun e W' ⟨he, bel⟩ => ?_
  subst he
  exact ⟨_, rfl, _, _, _, [], _, [], hW', trodAll_mk1 (shut_bool Try.underlying4 _), (trodAll_cons_mk (Below.trod laidOut (by kernel_rfl) (of_decide_eq_true (by kernel_rfl)) k0 bel lt0) (trodAll_cons_mk (Below.trod laidOut (by kernel_rfl) (of_decide_eq_true (by kernel_rfl)) k1 bel lt1) trodAll_mk0)), rfl, bel.frame _, fun h => by cases h⟩

theorem frameTells_said : Rows.FrameTellsSaid :=
  OpenClaim.holds_of_wide 3 Try.f3 rfl rfl rfl rfl rfl rfl rfl ⟨rfl, rfl, rfl, rfl, rfl⟩ rfl rfl rfl rfl rfl (by kernel_rfl) Try.func3 (by unfold joinedFacts; simp only [Bool.and_eq_true]; and_intros <;> as_aux_lemma => kernel_rfl)
    (of_decide_eq_true (by kernel_rfl)) (by unfold Func.isWrapper; first | (rw [if_pos (by decide +kernel)]; kernel_rfl) | (rw [if_neg (by decide +kernel)]; exact ⟨rfl, rfl⟩))
    (fun os started H enc _ => frameTells_lifted os started H enc)
#print axioms frameTells_said
end Go.Proofs.Ytieodancccefiaa
