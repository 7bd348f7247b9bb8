/- The statement FrameBack of package sess: a frame is read as it was put; with one byte changed, or cut, it is none; it holds of every frame and every two ints. -/
import Derived.Test.YtieodancccefiaaFrmL
import Derived.Test.YtieodancccefiaaSesJ
import Derived.Test.YtieodancccefiaaSumChg
import Derived.ShutString
import Derived.Deep.Cut
import Derived.Test.YtieodancccefiaaGC
namespace Go.Proofs.Ytieodancccefiaa
open Go Go.RowKit Go.ChangeShapes Go.WideShapes Go.ChangeMaps Go.ChangeAt
set_option maxRecDepth 100000
set_option maxHeartbeats 4000000
set_option linter.unusedSimpArgs false

theorem frm_head (x : Frm) : ∃ h : List UInt8, h.length = 37 ∧ frmL x = h ++ (leb 2 x.d.length ++ x.d) := by
  refine ⟨frmN x 7, (frmN_len x).2.2.2.2.2.2.2, ?_⟩
  simp [frmL, frmN, List.append_assoc]
theorem leb2_inj {a b : Nat} (ha : a < 65536) (hb : b < 65536) (h : leb 2 a = leb 2 b) : a = b := by
  have h2 : (256 : Nat) ^ 2 = 65536 := rfl
  have := unleb_leb 2 a (by omega)
  rw [h, unleb_leb 2 b (by omega)] at this
  exact this.symm
/-- A frame's bytes without the last one are no frame's. -/
theorem fget_cut {f : Frm} (_hb : badFr f = false) (hd : ¬ 3000 < f.d.length) : (fgetF ((frmS f).take (42 + f.d.length))).2 ≠ 0 := by
  have hl := frmL_len f
  have e : (frmS f).take (42 + f.d.length) = sum4 (frmL f) ++ (frmL f).take (38 + f.d.length) := by
    unfold frmS
    rw [List.take_append, List.take_of_length_le (by rw [sum4_length]; omega), sum4_length]
    congr 2
    omega
  rw [e]
  have ho := opn_str (sum4 (frmL f)) ((frmL f).take (38 + f.d.length)) (sum4_length _)
  unfold fgetF
  by_cases hs : sum4 (frmL f) = sum4 ((frmL f).take (38 + f.d.length))
  · rw [if_pos hs, if_pos hs] at ho
    rw [ho.1, ho.2, if_neg (by simp), str_list]
    unfold fgetT
    split
    · rename_i h; exact h
    · split
      · rename_i h1 h2
        exfalso
        obtain ⟨t, ht⟩ : ∃ t, t = (frmL f).take (38 + f.d.length) := ⟨_, rfl⟩
        rw [← ht] at h2 hs
        obtain ⟨X, hX⟩ : ∃ X, X = frmOf (parF t) := ⟨_, rfl⟩
        rw [← hX] at h2
        clear hX
        unfold fputF at h2
        split at h2
        · simp at h2
        · split at h2
          · simp at h2
          · rename_i g1 g2
            have h3 : frmS X = sum4 (frmL f) ++ t := congrArg Prod.fst h2
            have h4 : frmL X = t := (List.append_inj h3 (by rw [sum4_length, sum4_length])).2
            obtain ⟨ha, hal, hae⟩ := frm_head X
            obtain ⟨hc, hcl, hce⟩ := frm_head f
            have hlt : t.length = 38 + f.d.length := by rw [ht, List.length_take]; omega
            have hlF := frmL_len X
            rw [h4, hlt] at hlF
            have k1 : (t.take 39).drop 37 = leb 2 X.d.length := by
              rw [← h4, hae, List.take_append, List.take_of_length_le (by omega), hal, List.drop_append, List.drop_of_length_le (by omega), hal, List.nil_append, Nat.sub_self, List.drop_zero, List.take_append, List.take_of_length_le (by rw [leb_length]; omega), leb_length]
              simp
            have k2 : (t.take 39).drop 37 = leb 2 f.d.length := by
              rw [ht, List.take_take, Nat.min_eq_left (by omega), hce, List.take_append, List.take_of_length_le (by omega), hcl, List.drop_append, List.drop_of_length_le (by omega), hcl, List.nil_append, Nat.sub_self, List.drop_zero, List.take_append, List.take_of_length_le (by rw [leb_length]; omega), leb_length]
              simp
            have := leb2_inj (by omega) (by omega) (k1.symm.trans k2)
            omega
      · decide
  · rw [if_neg hs, if_neg hs] at ho
    rw [ho.2, if_pos (by decide)]
    decide
theorem fget_set (f : Frm) (i : Nat) (x : UInt8) (h : i < (frmS f).length) (hx : x ≠ (frmS f)[i]) : fgetF ((frmS f).set i x) = (zFrm, 6) := by
  have := opn_changed (frmL f) i x h hx
  unfold fgetF frmS
  rw [this.2, if_pos (by decide)]
theorem fput_no {f : Frm} (h : badFr f = true ∨ 3000 < f.d.length) : (fputF f).1 = [] ∧ (fputF f).2 ≠ 0 := by
  unfold fputF
  rcases h with h | h
  · rw [if_pos h]; exact ⟨rfl, by decide⟩
  · by_cases hb : badFr f = true
    · rw [if_pos hb]; exact ⟨rfl, by decide⟩
    · rw [if_neg hb, if_pos h]; exact ⟨rfl, by decide⟩
theorem frameBack_long (f : Frm) (a b : Int) (w : World) (h : 300 < f.d.length) :
    Calls Try.prog 6 #[aggF f, .int .i64 a, .int .i64 b] w fun e w' => e = .returned (.bool true) ∧ Below w.heap.size w w' := by
  have HA := Lib.hid alive15_any
  unfold aggF
  have hz := str_size f.d
  have d1 : decide (300 < ((str f.d).size : Int)) = true := decide_eq_true (by omega)
  clear h hz
  go_enter Try.func6, Try.ntmps6
  go_wp2_with fail
  (with_reducible refine (HA.out _).mono ?_)
  rintro e w1 ⟨rfl, hb⟩
  have HF := Lib.hid (((Below.refl w.heap.size w).alloc (Nat.le_refl _) _).trans (hb.mono (by simp)))
  clear hb
  go_wp2
  go_ret
  exact ⟨rfl, HF.out⟩
theorem frameBack_bad (f : Frm) (hi : FrmIn f) (a b : Int) (w : World) (h : ¬ 300 < f.d.length) (hb : badFr f = true) :
    Calls Try.prog 6 #[aggF f, .int .i64 a, .int .i64 b] w fun e w' => e = .returned (.bool true) ∧ Below w.heap.size w w' := by
  have HA := Lib.hid alive15_any
  have HP := Lib.hid (fput_any f hi (by omega))
  obtain ⟨h1, h2⟩ := fput_no (.inl hb)
  rw [h1] at HP
  obtain ⟨E, hE⟩ : ∃ E, E = (fputF f).2 := ⟨_, rfl⟩
  rw [← hE] at HP h2
  have d3 : (E != 0) = true := bne_iff_ne.2 h2
  have HSE : Hid (str [] = (⟨#[]⟩ : ByteArray)) := Lib.hid rfl
  rw [HSE.out] at HP
  clear hE h1 h2 hb hi
  unfold aggF at HP ⊢
  have d1 : decide (300 < ((str f.d).size : Int)) = false := decide_eq_false (by rw [str_size]; omega)
  obtain ⟨D, hD⟩ : ∃ D, D = str f.d := ⟨_, rfl⟩
  rw [← hD] at d1 HP
  rw [← hD]
  clear hD
  obtain ⟨wa, hwa⟩ : ∃ wa, wa = w.alloc (.cells #[.int .i64 f.f, .int .i64 f.t, .int .i64 f.m, .int .i64 f.y, .int .i64 f.s, .int .i64 f.a, .string D, .bool f.h] 23) := ⟨_, rfl⟩
  have HS : Hid (Sits wa w.heap.size 23 #[.int .i64 f.f, .int .i64 f.t, .int .i64 f.m, .int .i64 f.y, .int .i64 f.s, .int .i64 f.a, .string D, .bool f.h]) := Lib.hid (hwa ▸ Sits.fresh w _ _)
  have HB : Hid (Below w.heap.size w wa) := Lib.hid (hwa ▸ (Below.refl _ w).alloc (Nat.le_refl _) _)
  have a0 : wa.cell? ⟨w.heap.size, 0, none⟩ = some (.int .i64 f.f) := HS.out.cell 0
  have a1 : wa.cell? ⟨w.heap.size, 1, none⟩ = some (.int .i64 f.t) := HS.out.cell 1
  have a2 : wa.cell? ⟨w.heap.size, 2, none⟩ = some (.int .i64 f.m) := HS.out.cell 2
  have a3 : wa.cell? ⟨w.heap.size, 3, none⟩ = some (.int .i64 f.y) := HS.out.cell 3
  have a4 : wa.cell? ⟨w.heap.size, 4, none⟩ = some (.int .i64 f.s) := HS.out.cell 4
  have a5 : wa.cell? ⟨w.heap.size, 5, none⟩ = some (.int .i64 f.a) := HS.out.cell 5
  have a6 : wa.cell? ⟨w.heap.size, 6, none⟩ = some (.string D) := HS.out.cell 6
  have a7 : wa.cell? ⟨w.heap.size, 7, none⟩ = some (.bool f.h) := HS.out.cell 7
  have al := HS.out.lt
  clear h
  go_enter Try.func6, Try.ntmps6
  go_wp2_with fail
  rw [← hwa]
  clear hwa
  go_wp2_with fail
  clear a0 a1 a2 a3 a4 a5 a6 a7 al d1
  (with_reducible refine (HP.out _).mono ?_)
  rintro e w1 ⟨rfl, hb⟩
  have HS1 := Lib.hid (HS.out.below' hb)
  have HB1 := Lib.hid (HB.out.trans (hb.mono HB.out.size))
  clear hb HS HB
  go_wp2_with fail
  (with_reducible refine (HA.out _).mono ?_)
  rintro e w2 ⟨rfl, hb⟩
  have HB2 := Lib.hid (HB1.out.trans (hb.mono HB1.out.size))
  clear hb
  go_wp2
  go_ret
  exact ⟨rfl, HB2.out⟩
theorem frameBack_good (f : Frm) (hi : FrmIn f) (a b : Int) (wa : (Lit.int .i64 a).wf = true) (w : World) (h : ¬ 300 < f.d.length) (hbd : badFr f = false) :
    Calls Try.prog 6 #[aggF f, .int .i64 a, .int .i64 b] w fun e w' => e = .returned (.bool true) ∧ Below w.heap.size w w' := by
  have HA := Lib.hid alive15_any
  have hp := fput_ok hbd (show ¬ 3000 < f.d.length by omega)
  have hcut := fget_cut hbd (show ¬ 3000 < f.d.length by omega)
  have hll := frmS_len f
  have HP : Hid (∀ W : World, Calls Try.prog 10 #[aggF f] W fun e w' => e = .returned (.tuple #[.string (str (frmS f)), .int .i64 0]) ∧ Below W.heap.size W w') := Lib.hid fun W => by
    have := fput_any f hi (by omega) W
    rwa [hp] at this
  have HG : Hid (∀ W : World, Calls Try.prog 13 #[.string (str (frmS f))] W fun e w' => e = .returned (.tuple #[aggF f, .int .i64 0]) ∧ Below W.heap.size W w') := Lib.hid fun W => by
    have := fget_any (frmS f) (by omega) W
    rwa [fget_put hbd hi (by omega)] at this
  have HC := Lib.hid (fget_any ((frmS f).take (42 + f.d.length)) (by rw [List.length_take]; omega))
  have HGS : Hid (∀ i u, i < (frmS f).length → (∀ h : i < (frmS f).length, u ≠ (frmS f)[i]) → ∀ W : World, Calls Try.prog 13 #[.string (str ((frmS f).set i u))] W fun e w' => e = .returned (.tuple #[.agg #[.int .i64 0, .int .i64 0, .int .i64 0, .int .i64 0, .int .i64 0, .int .i64 0, .string (str []), .bool false], .int .i64 6]) ∧ Below W.heap.size W w') := Lib.hid fun i u hi hu W => by
    have := fget_any ((frmS f).set i u) (by rw [List.length_set]; omega) W
    rw [fget_set f i u hi (hu hi)] at this
    exact this
  obtain ⟨⟨z, ze⟩, hz⟩ : ∃ x, x = fgetF ((frmS f).take (42 + f.d.length)) := ⟨_, rfl⟩
  rw [← hz] at HC hcut
  obtain ⟨L, hL⟩ : ∃ L, L = frmS f := ⟨_, rfl⟩
  obtain ⟨m, hm⟩ : ∃ m, m = 42 + f.d.length := ⟨_, rfl⟩
  rw [← hL] at HP HG HGS hll HC
  rw [← hm] at HC
  have hll : L.length = m + 1 := by omega
  have hm4 : 42 ≤ m ∧ m ≤ 342 := by omega
  have hsz : (str L).size = m + 1 := by rw [str_size, hll]
  have hx : (str L).extract 0 m = str (L.take m) := by rw [str_extract, List.drop_zero]
  have d4 : decide (((m + 1 : Nat) : Int) < 4) = false := decide_eq_false (by omega)
  have d4' : decide ((m : Int) + 1 < 4) = false := decide_eq_false (by omega)
  have d5 : (ze != 0) = true := bne_iff_ne.2 hcut
  have hmI : (m : Int) ≤ 342 := by omega
  have HLL := Lib.hid hll
  unfold aggF at HP HG HC ⊢
  simp only at HP HG HC
  obtain ⟨ZD, hZD⟩ : ∃ D, D = str z.d := ⟨_, rfl⟩
  rw [← hZD] at HC
  obtain ⟨C, hCC⟩ : ∃ C, C = str (L.take m) := ⟨_, rfl⟩
  rw [← hCC] at HC hx
  clear hz hL hm hll hcut hp hbd hi hZD hCC hm4
  have d1 : decide (300 < ((str f.d).size : Int)) = false := decide_eq_false (by rw [str_size]; omega)
  obtain ⟨D, hD⟩ : ∃ D, D = str f.d := ⟨_, rfl⟩
  rw [← hD] at d1 HP HG
  rw [← hD]
  clear hD
  obtain ⟨wa, hwa⟩ : ∃ wa, wa = w.alloc (.cells #[.int .i64 f.f, .int .i64 f.t, .int .i64 f.m, .int .i64 f.y, .int .i64 f.s, .int .i64 f.a, .string D, .bool f.h] 23) := ⟨_, rfl⟩
  have HS : Hid (Sits wa w.heap.size 23 #[.int .i64 f.f, .int .i64 f.t, .int .i64 f.m, .int .i64 f.y, .int .i64 f.s, .int .i64 f.a, .string D, .bool f.h]) := Lib.hid (hwa ▸ Sits.fresh w _ _)
  have HB : Hid (Below w.heap.size w wa) := Lib.hid (hwa ▸ (Below.refl _ w).alloc (Nat.le_refl _) _)
  have a0 : wa.cell? ⟨w.heap.size, 0, none⟩ = some (.int .i64 f.f) := HS.out.cell 0
  have a1 : wa.cell? ⟨w.heap.size, 1, none⟩ = some (.int .i64 f.t) := HS.out.cell 1
  have a2 : wa.cell? ⟨w.heap.size, 2, none⟩ = some (.int .i64 f.m) := HS.out.cell 2
  have a3 : wa.cell? ⟨w.heap.size, 3, none⟩ = some (.int .i64 f.y) := HS.out.cell 3
  have a4 : wa.cell? ⟨w.heap.size, 4, none⟩ = some (.int .i64 f.s) := HS.out.cell 4
  have a5 : wa.cell? ⟨w.heap.size, 5, none⟩ = some (.int .i64 f.a) := HS.out.cell 5
  have a6 : wa.cell? ⟨w.heap.size, 6, none⟩ = some (.string D) := HS.out.cell 6
  have a7 : wa.cell? ⟨w.heap.size, 7, none⟩ = some (.bool f.h) := HS.out.cell 7
  have al := HS.out.lt
  clear h
  go_enter Try.func6, Try.ntmps6
  go_wp2_with fail
  rw [← hwa]
  clear hwa
  go_wp2_with fail
  clear a0 a1 a2 a3 a4 a5 a6 a7 al d1
  (with_reducible refine (HP.out _).mono ?_)
  rintro e w1 ⟨rfl, hb⟩
  have HS1 := Lib.hid (HS.out.below' hb)
  have HB1 := Lib.hid (HB.out.trans (hb.mono HB.out.size))
  clear hb HS HB
  go_wp2_with fail
  (with_reducible refine (HG.out _).mono ?_)
  rintro e w2 ⟨rfl, hb⟩
  have HS2 := Lib.hid (HS1.out.below' hb)
  have HB2 := Lib.hid (HB1.out.trans (hb.mono HB1.out.size))
  clear hb HS1 HB1
  obtain ⟨w3, hw3⟩ : ∃ W9, W9 = w2.alloc (.cells #[.int .i64 f.f, .int .i64 f.t, .int .i64 f.m, .int .i64 f.y, .int .i64 f.s, .int .i64 f.a, .string D, .bool f.h] 23) := ⟨_, rfl⟩
  obtain ⟨g, hg⟩ : ∃ q9, q9 = w2.heap.size := ⟨_, rfl⟩
  have hba : Below w2.heap.size w2 w3 := hw3 ▸ (Below.refl _ w2).alloc (Nat.le_refl _) _
  have HK3 : Hid (Sits w3 g 23 #[.int .i64 f.f, .int .i64 f.t, .int .i64 f.m, .int .i64 f.y, .int .i64 f.s, .int .i64 f.a, .string D, .bool f.h]) := Lib.hid (by rw [hw3, hg]; exact Sits.fresh w2 _ _)
  have HS3 := Lib.hid (HS2.out.below' hba)
  have HB3 := Lib.hid (HB2.out.trans (hba.mono HB2.out.size))
  clear hba HS2 HB2
  go_upto_region 7 with fail
  rw [← hw3]
  try rw [← hg]
  clear hw3 hg
  have a0 : w3.cell? ⟨w.heap.size, 0, none⟩ = some (.int .i64 f.f) := HS3.out.cell 0
  have a1 : w3.cell? ⟨w.heap.size, 1, none⟩ = some (.int .i64 f.t) := HS3.out.cell 1
  have a2 : w3.cell? ⟨w.heap.size, 2, none⟩ = some (.int .i64 f.m) := HS3.out.cell 2
  have a3 : w3.cell? ⟨w.heap.size, 3, none⟩ = some (.int .i64 f.y) := HS3.out.cell 3
  have a4 : w3.cell? ⟨w.heap.size, 4, none⟩ = some (.int .i64 f.s) := HS3.out.cell 4
  have a5 : w3.cell? ⟨w.heap.size, 5, none⟩ = some (.int .i64 f.a) := HS3.out.cell 5
  have a6 : w3.cell? ⟨w.heap.size, 6, none⟩ = some (.string D) := HS3.out.cell 6
  have a7 : w3.cell? ⟨w.heap.size, 7, none⟩ = some (.bool f.h) := HS3.out.cell 7
  have b0 : w3.cell? ⟨g, 0, none⟩ = some (.int .i64 f.f) := HK3.out.cell 0
  have b1 : w3.cell? ⟨g, 1, none⟩ = some (.int .i64 f.t) := HK3.out.cell 1
  have b2 : w3.cell? ⟨g, 2, none⟩ = some (.int .i64 f.m) := HK3.out.cell 2
  have b3 : w3.cell? ⟨g, 3, none⟩ = some (.int .i64 f.y) := HK3.out.cell 3
  have b4 : w3.cell? ⟨g, 4, none⟩ = some (.int .i64 f.s) := HK3.out.cell 4
  have b5 : w3.cell? ⟨g, 5, none⟩ = some (.int .i64 f.a) := HK3.out.cell 5
  have b6 : w3.cell? ⟨g, 6, none⟩ = some (.string D) := HK3.out.cell 6
  have b7 : w3.cell? ⟨g, 7, none⟩ = some (.bool f.h) := HK3.out.cell 7
  have al := HS3.out.lt
  have bl := HK3.out.lt
  go_wp2_with fail
  clear a0 a1 a2 a3 a4 a5 a6 a7 b0 b1 b2 b3 b4 b5 b6 b7 al bl HS3 HK3
  (with_reducible refine (HC.out _).mono ?_)
  rintro e w4 ⟨rfl, hb⟩
  have HB4 := Lib.hid (HB3.out.trans (hb.mono HB3.out.size))
  clear hb HB3
  obtain ⟨w5, hw5⟩ : ∃ W9, W9 = w4.alloc (.cells #[.int .i64 z.f, .int .i64 z.t, .int .i64 z.m, .int .i64 z.y, .int .i64 z.s, .int .i64 z.a, .string ZD, .bool z.h] 23) := ⟨_, rfl⟩
  have hba : Below w4.heap.size w4 w5 := hw5 ▸ (Below.refl _ w4).alloc (Nat.le_refl _) _
  have HB5 := Lib.hid (HB4.out.trans (hba.mono HB4.out.size))
  clear hba HB4
  by_cases hab : a < 0 ∨ b % 256 = 0
  · obtain ⟨d2, hd2, hd3⟩ : ∃ d2 : Bool, decide (a < 0) = d2 ∧ (d2 = false → ((b % 256) == 0) = true) := ⟨_, rfl, fun e => by
      have := of_decide_eq_false e
      rw [beq_iff_eq]
      omega⟩
    clear hab
    cases d2 with
    | true =>
      go_wp2_with fail
      rw [← hw5]
      (with_reducible refine (HA.out _).mono ?_)
      rintro e w6 ⟨rfl, hb⟩
      have HF := Lib.hid (HB5.out.trans (hb.mono HB5.out.size))
      clear hb
      go_wp2
      go_ret
      exact ⟨rfl, HF.out⟩
    | false =>
      have hd4 := hd3 rfl
      go_wp2_with fail
      rw [← hw5]
      (with_reducible refine (HA.out _).mono ?_)
      rintro e w6 ⟨rfl, hb⟩
      have HF := Lib.hid (HB5.out.trans (hb.mono HB5.out.size))
      clear hb
      go_wp2
      go_ret
      exact ⟨rfl, HF.out⟩
  · obtain ⟨k, rfl⟩ := Int.eq_ofNat_of_zero_le (show 0 ≤ a by omega)
    obtain ⟨c, hc⟩ := Int.eq_ofNat_of_zero_le (show 0 ≤ b % 256 by omega)
    have hc1 : c < 256 := by omega
    have hc0 : c ≠ 0 := by omega
    obtain ⟨q, hq⟩ : ∃ q, q = k % (m + 1) := ⟨_, rfl⟩
    have hqm : q < m + 1 := by rw [hq]; exact Nat.mod_lt _ (by omega)
    have hrem : (k : Int) % ((m : Int) + 1) = (q : Int) := by rw [hq]; rfl
    have hql : q < L.length := by rw [HLL.out]; exact hqm
    obtain ⟨u, hu, hux⟩ := xor_other L[q] c hc1 hc0
    have HG2 := Lib.hid (HGS.out q u hql fun _ => hu)
    obtain ⟨yq, hyq⟩ : ∃ n, n = (L[q].toNat : Int) := ⟨_, rfl⟩
    obtain ⟨un, hun⟩ : ∃ n, n = (u.toNat : Int) := ⟨_, rfl⟩
    rw [← hun] at hux
    have hux2 := hux
    rw [← hyq] at hux
    have HYQ := Lib.hid hyq
    have HUN := Lib.hid hun
    have HQL := Lib.hid hql
    have d3 : decide ((k : Int) < 0) = false := decide_eq_false (by omega)
    have d6 : ((c : Int) == 0) = false := by rw [beq_eq_false_iff_ne]; omega
    have p4 : (q : Int) < (m : Int) + 1 := by omega
    have p5 : 0 ≤ (q : Int) := by omega
    obtain ⟨cb, Wb, rb, lb, cellb, fzb, bb⟩ := text_bytes (P := Try.prog) w5 9 55 5 L Try.underlying9 Try.underlying55 Try.underlying5
    have bp : Wb.cell? ⟨w5.heap.size, q, none⟩ = some (.int .u8 yq) := by rw [HYQ.out]; exact cellb q HQL.out
    have bf : Wb.frozen? ⟨w5.heap.size, q, none⟩ = false := fzb q HQL.out
    obtain ⟨X2, hX2⟩ : ∃ X, X = Wb.setCell ⟨w5.heap.size, q, none⟩ (.int .u8 un) := ⟨_, rfl⟩
    have xb : ∀ j (h : j < (L.set q u).length), X2.cell? ⟨w5.heap.size, j, none⟩ = some (.int .u8 (((L.set q u)[j]).toNat : Int)) := fun j h => by
      rw [hX2, HUN.out]
      exact cells_set _ _ L q u cellb j h
    have ra := text_of_cells X2 w5.heap.size cb L.length (L.set q u) xb (by rw [List.length_set])
    have HBX : Hid (Below w.heap.size w X2) := Lib.hid (by
      rw [hX2]
      exact (HB5.out.trans (bb.mono HB5.out.size)).setCell HB5.out.size _)
    rw [hX2] at ra
    rw [HLL.out] at ra rb
    obtain ⟨gb5, hgb5⟩ : ∃ x, x = w5.heap.size := ⟨_, rfl⟩
    rw [← hgb5] at ra rb bp bf hX2
    have HX := Lib.hid hX2
    have HG5 := Lib.hid hgb5
    have HRB := Lib.hid (And.intro hq (And.intro hqm (And.intro hql (And.intro hu (And.intro hyq hun)))))
    clear cellb fzb xb bb hX2 hq hqm hu hab hgb5 hyq hun
    go_upto_region 12 with fail
    rw [← hw5]
    clear hw5
    go_wp2_with fail
    clear hux hux2 bp bf rb ra
    (with_reducible refine (HG2.out _).mono ?_)
    rintro e w6 ⟨rfl, hb⟩
    rw [← HX.out] at hb
    have HB6 := Lib.hid (HBX.out.trans (hb.mono HBX.out.size))
    clear hb
    go_wp2_with fail
    (with_reducible refine (HA.out _).mono ?_)
    rintro e wz ⟨rfl, hb⟩
    have HF := Lib.hid ((HB6.out.alloc HB6.out.size _).trans (hb.mono (HB6.out.alloc HB6.out.size _).size))
    clear hb
    go_wp2
    go_ret
    exact ⟨rfl, HF.out⟩
theorem frameBack_walk (v : Value) (f : Frm) (a : Int) (wa : (Lit.int .i64 a).wf = true) (b : Int) (_wb : (Lit.int .i64 b).wf = true) (w : World) (hi : FrmIn f ∧ f.d.length ≤ 9223372036854775807 ∧ v = aggF f) :
    Calls Try.prog 6 #[v, .int .i64 a, .int .i64 b] w fun e w' => e = .returned (.bool true) ∧ Below w.heap.size w w' := by
  obtain ⟨hi, -, rfl⟩ := hi
  by_cases h : 300 < f.d.length
  · exact frameBack_long f a b w h
  · by_cases hb : badFr f = true
    · exact frameBack_bad f hi a b w h hb
    · exact frameBack_good f hi a b wa w h (by simpa using hb)

set_option maxRecDepth 100000 in
theorem frameBack_lifted (os : Os) (started : os.Started) (H : Type) (enc : TypeId × Value → H) :
    ReturnsInHanded {} Try.checked os 6 .any (Rows.frameBackSpec.pre6 enc Try.prog Try.f6 Rows.frameBackRow.domain false) (Rows.frameBackSpec.post enc Try.prog Try.f6 false true false false) := by
  refine returnsInHanded_of_change (C := Try.checked) own started (by kernel_rfl) Try.func6
    (ChangeSpec.witness6 (enc := enc) (C := Try.checked) false ⟨#[], #[.agg #[.int .i64 0, .int .i64 0, .int .i64 0, .int .i64 0, .int .i64 0, .int .i64 0, .string ByteArray.empty, .bool false], .int .i64 0, .int .i64 0], []⟩ 8 (by kernel_rfl) (by kernel_rfl) (by kernel_rfl) (by kernel_rfl)) ?_
  intro W base args ds gs before hval0 hW _ _
  have hval : ∀ (j : Nat) t v, Try.f6.params[j]? = some t → args[j]? = some v → Value.okWide Try.prog W .any base t v := hval0
  have hW' := hW
  obtain ⟨p, q, hA0, hV, rfl, hfz, hnd⟩ := hW
  have hA : DataW.TrodAll enc Try.prog W 0 (fun _ => true) true Try.f6.params.toList args.toList ds p := hA0
  rw [Try.params6] at hA hval
  obtain ⟨v0, vs0, d0, ds0, p0, q0, hargs, rfl, rfl, h0, r0⟩ := trodAll_cons hA
  obtain ⟨v1, vs1, d1, ds1, p1, q1, rfl, rfl, rfl, h1, r1⟩ := trodAll_cons r0
  obtain ⟨v2, vs2, d2, ds2, p2, q2, rfl, rfl, rfl, h2, r2⟩ := trodAll_cons r1
  obtain ⟨rfl, rfl, rfl⟩ := trodAll_nil r2
  obtain rfl : args = #[v0, v1, v2] := by cases args; simp_all
  obtain ⟨rfl, rfl⟩ := trodVars_none hV
  have k0 := h0
  have lt0 : ∀ x ∈ p0, x.block < W.heap.size := by obtain ⟨m, hm⟩ := k0; exact DataW.trod_lt m _ _ _ hm
  have k1 := h1
  have lt1 : ∀ x ∈ p1, x.block < W.heap.size := by obtain ⟨m, hm⟩ := k1; exact DataW.trod_lt m _ _ _ hm
  have k2 := h2
  have lt2 : ∀ x ∈ p2, x.block < W.heap.size := by obtain ⟨m, hm⟩ := k2; exact DataW.trod_lt m _ _ _ hm
  obtain ⟨a0, w0⟩ := frame_open (hval 0 23 v0 rfl rfl) k0
  obtain ⟨a1, rfl, rfl, rfl, w1⟩ := open_int Try.underlying3 (hval 1 3 v1 rfl rfl) h1
  obtain ⟨a2, rfl, rfl, rfl, w2⟩ := open_int Try.underlying3 (hval 2 3 v2 rfl rfl) h2
  clear hA0 hval0
  refine (frameBack_walk v0 a0 a1 w1 a2 w2 W w0).mono fun e W' ⟨he, bel⟩ => ?_
  subst he
  exact ⟨_, rfl, _, _, _, [], _, [], hW', trodAll_mk1 (shut_bool Try.underlying4 _), (trodAll_cons_mk (Below.trod laidOut (by kernel_rfl) (of_decide_eq_true (by kernel_rfl)) k0 bel lt0) (trodAll_cons_mk (Below.trod laidOut (by kernel_rfl) (of_decide_eq_true (by kernel_rfl)) k1 bel lt1) (trodAll_cons_mk (Below.trod laidOut (by kernel_rfl) (of_decide_eq_true (by kernel_rfl)) k2 bel lt2) trodAll_mk0))), rfl, bel.frame _, fun h => by cases h⟩

theorem frameBack_said : Rows.FrameBackSaid :=
  OpenClaim.holds_of_wide 6 Try.f6 rfl rfl rfl rfl rfl rfl rfl ⟨rfl, rfl, rfl, rfl, rfl⟩ rfl rfl rfl rfl rfl (by kernel_rfl) Try.func6 (by unfold joinedFacts; simp only [Bool.and_eq_true]; and_intros <;> as_aux_lemma => kernel_rfl)
    (of_decide_eq_true (by kernel_rfl)) (by unfold Func.isWrapper; first | (rw [if_pos (by decide +kernel)]; kernel_rfl) | (rw [if_neg (by decide +kernel)]; exact ⟨rfl, rfl⟩))
    (fun os started H enc _ => frameBack_lifted os started H enc)
#print axioms frameBack_said
end Go.Proofs.Ytieodancccefiaa
