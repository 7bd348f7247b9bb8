/- The statement SuperBack of package super: a shape is read as it was put; with one byte changed it is none; a superblock is one sector; it holds of every shape and every two ints. -/
import Derived.Test.YtnhfpkbnedjmlaaSupG
import Derived.Test.YtnhfpkbnedjmlaaSumChg
import Derived.Test.YtnhfpkbnedjmlaaMem
import Derived.ChangeOld
namespace Go.Proofs.Ytnhfpkbnedjmlaa
open Go Go.RowKit Go.ChangeShapes Go.WideShapes Go.ChangeAt SupP
set_option maxRecDepth 100000
set_option maxHeartbeats 2000000
set_option linter.unusedSimpArgs false

theorem superBack_bad (s : Sh) (i b : Int) (w : World) (h : validB s = false) :
    Calls Try.prog 4 #[aggH s, .int .i64 i, .int .i64 b] w fun e w' => e = .returned (.bool true) ∧ Below w.heap.size w w' := by
  have HV : Hid (∀ W : World, Calls Try.prog 5 #[aggH s] W fun e w' => e = .returned (.bool false) ∧ Below W.heap.size W w') := Lib.hid fun W => by have := svalid_any s W; rwa [h] at this
  have HP : Hid (∀ W : World, Calls Try.prog 10 #[aggH s] W fun e w' => e = .returned (.tuple #[.string (str []), .int .i64 1]) ∧ Below W.heap.size W w') := Lib.hid (sput_bad s h)
  have HA := Lib.hid alive9_any
  have hnil : (str []).toList = [] := by simp [str, ByteArray.toList_eq]
  have hnil2 : (!(str []).toList.isEmpty) = false := by simp [hnil]
  clear h
  obtain ⟨n, bl, l, c, t⟩ := s
  unfold aggH at HV HP ⊢
  simp only at HV HP ⊢
  obtain ⟨wa, hwa⟩ : ∃ wa, wa = w.alloc (.cells #[.int .i64 n, .int .i64 bl, .int .i64 l, .int .i64 c, .int .i64 t] 23) := ⟨_, rfl⟩
  obtain ⟨pa, hpa⟩ : ∃ pa, pa = w.heap.size := ⟨_, rfl⟩
  have HBA : Hid (Below w.heap.size w wa) := Lib.hid (by rw [hwa]; exact (Below.refl w.heap.size w).alloc (Nat.le_refl _) _)
  have HSA : Hid (Sits wa pa 23 #[.int .i64 n, .int .i64 bl, .int .i64 l, .int .i64 c, .int .i64 t]) := Lib.hid (by rw [hwa, hpa]; exact Sits.fresh w _ _)
  go_enter Try.func4, Try.ntmps4
  go_wp2_with fail
  rw [← hwa, ← hpa]
  clear hwa hpa
  (with_reducible refine (HP.out _).mono ?_)
  rintro e w1 ⟨rfl, hb⟩
  have HS1 := Lib.hid (HSA.out.below' hb)
  have HB1 := Lib.hid (HBA.out.trans (hb.mono HBA.out.size))
  clear hb
  go_wp2_with fail
  (with_reducible refine (HA.out _).mono ?_)
  rintro e w2 ⟨rfl, hb⟩
  have hs := HS1.out.below' hb
  have HB2 := Lib.hid (HB1.out.trans (hb.mono HB1.out.size))
  have c0 : w2.cell? ⟨pa, 0, none⟩ = some (.int .i64 n) := hs.cell 0
  have c1 : w2.cell? ⟨pa, 1, none⟩ = some (.int .i64 bl) := hs.cell 1
  have c2 : w2.cell? ⟨pa, 2, none⟩ = some (.int .i64 l) := hs.cell 2
  have c3 : w2.cell? ⟨pa, 3, none⟩ = some (.int .i64 c) := hs.cell 3
  have c4 : w2.cell? ⟨pa, 4, none⟩ = some (.int .i64 t) := hs.cell 4
  clear hb hs
  go_wp2_with fail
  clear c0 c1 c2 c3 c4
  (with_reducible refine (HV.out _).mono ?_)
  rintro e w3 ⟨rfl, hb⟩
  have HB3 := Lib.hid (HB2.out.trans (hb.mono HB2.out.size))
  clear hb
  go_wp2
  go_ret
  exact ⟨rfl, HB3.out⟩
theorem superBack_low (s : Sh) (i b : Int) (w : World) (h : Valid s) (hi : i < 0) :
    Calls Try.prog 4 #[aggH s, .int .i64 i, .int .i64 b] w fun e w' => e = .returned (.bool true) ∧ Below w.heap.size w w' := by
  have HP := Lib.hid (sput_ok s h)
  have HG := Lib.hid (sget_ok s h)
  have HA := Lib.hid alive9_any
  have hz := superS_size s
  obtain ⟨y, hy⟩ : ∃ y, y = superS s := ⟨_, rfl⟩
  rw [← hy] at HP HG hz
  have d1 : (((y.size : Int)) != 64) = false := by simp [hz]
  have d2 : (((y.size : Int)) == 64) = true := by simp [hz]
  have d3 : decide (i < 0) = true := decide_eq_true hi
  clear h hy hz hi
  obtain ⟨n, bl, l, c, t⟩ := s
  unfold aggH at HP HG ⊢
  simp only at HP HG ⊢
  obtain ⟨wa, hwa⟩ : ∃ wa, wa = w.alloc (.cells #[.int .i64 n, .int .i64 bl, .int .i64 l, .int .i64 c, .int .i64 t] 23) := ⟨_, rfl⟩
  obtain ⟨pa, hpa⟩ : ∃ pa, pa = w.heap.size := ⟨_, rfl⟩
  have HBA : Hid (Below w.heap.size w wa) := Lib.hid (by rw [hwa]; exact (Below.refl w.heap.size w).alloc (Nat.le_refl _) _)
  have HSA : Hid (Sits wa pa 23 #[.int .i64 n, .int .i64 bl, .int .i64 l, .int .i64 c, .int .i64 t]) := Lib.hid (by rw [hwa, hpa]; exact Sits.fresh w _ _)
  go_enter Try.func4, Try.ntmps4
  go_wp2_with fail
  rw [← hwa, ← hpa]
  clear hwa hpa
  (with_reducible refine (HP.out _).mono ?_)
  rintro e w1 ⟨rfl, hb⟩
  have HS1 := Lib.hid (HSA.out.below' hb)
  have HB1 := Lib.hid (HBA.out.trans (hb.mono HBA.out.size))
  clear hb
  go_wp2_with fail
  (with_reducible refine (HG.out _).mono ?_)
  rintro e w2 ⟨rfl, hb⟩
  have HS2 := Lib.hid (HS1.out.below' hb)
  have HB2 := Lib.hid (HB1.out.trans (hb.mono HB1.out.size))
  clear hb
  have hs := HS2.out
  have hlt := hs.lt
  have c0 : w2.cell? ⟨pa, 0, none⟩ = some (.int .i64 n) := hs.cell 0
  have c1 : w2.cell? ⟨pa, 1, none⟩ = some (.int .i64 bl) := hs.cell 1
  have c2 : w2.cell? ⟨pa, 2, none⟩ = some (.int .i64 l) := hs.cell 2
  have c3 : w2.cell? ⟨pa, 3, none⟩ = some (.int .i64 c) := hs.cell 3
  have c4 : w2.cell? ⟨pa, 4, none⟩ = some (.int .i64 t) := hs.cell 4
  clear hs
  go_wp2_with fail
  (with_reducible refine (HA.out _).mono ?_)
  rintro e w3 ⟨rfl, hb⟩
  have hb0 := HB2.out.alloc (HB2.out.size) (.cells #[.int .i64 n, .int .i64 bl, .int .i64 l, .int .i64 c, .int .i64 t] 23)
  have HB3 := Lib.hid (hb0.trans (hb.mono hb0.size))
  clear hb hb0
  go_wp2
  go_ret
  exact ⟨rfl, HB3.out⟩
theorem superBack_pos (s : Sh) (k : Nat) (b : Int) (w : World) (h : Valid s) (c : Nat) (hc : b % 256 = (c : Int)) (_hc1 : c < 256) (hql : k % 64 < (superL s).length) (u : UInt8) (hux : bits .xor .u8 ((superL s)[k % 64].toNat : Int) (c : Int) = (u.toNat : Int))
    (z : Sh) (g : Int) (hg : ∀ W : World, Calls Try.prog 11 #[.string (str ((superL s).set (k % 64) u))] W fun e w' => e = .returned (.tuple #[aggH z, .int .i64 g]) ∧ Below W.heap.size W w') (b5 : Bool) (d5 : (((c : Int)) == 0) = b5) (d6 : b5 = false → (g == 6) = true) :
    Calls Try.prog 4 #[aggH s, .int .i64 (k : Int), .int .i64 b] w fun e w' => e = .returned (.bool true) ∧ Below w.heap.size w w' := by
  have HP := Lib.hid (sput_ok s h)
  have HG := Lib.hid (sget_ok s h)
  have HA := Lib.hid alive9_any
  have HG2 := Lib.hid hg
  have hsh : ∀ W : World, Calls Try.prog 11 #[.string ((str (superL s)).extract 0 63)] W fun e w' => e = .returned (.tuple #[aggH zeroSh, .int .i64 5]) ∧ Below W.heap.size W w' := sget_short _ (by rw [ByteArray.size_extract, str_size, superL_len]; decide)
  have HSH := Lib.hid hsh
  rw [superL_str] at HP HG
  obtain ⟨y, hy⟩ : ∃ y, y = superL s := ⟨_, rfl⟩
  have hyl : y.length = 64 := by rw [hy]; exact superL_len s
  have hql : k % 64 < y.length := by rw [hy]; exact hql
  obtain ⟨yq, hyq⟩ : ∃ n, n = (y[k % 64].toNat : Int) := ⟨_, rfl⟩
  obtain ⟨un, hun⟩ : ∃ n, n = (u.toNat : Int) := ⟨_, rfl⟩
  have hux : bits .xor .u8 yq (c : Int) = un := by subst hy; rw [hyq, hun]; exact hux
  rw [← hy] at HP HG HG2 HSH
  have d1 : ((((str y).size : Int)) != 64) = false := by rw [str_size, hyl]; rfl
  have d2 : ((((str y).size : Int)) == 64) = true := by rw [str_size, hyl]; rfl
  have d3 : decide ((k : Int) < 0) = false := decide_eq_false (by omega)
  have hle : 63 ≤ (str y).size := by rw [str_size, hyl]; omega
  have p3 : k % 64 < y.length := hql
  have p4 : (k : Int) % 64 < (y.length : Int) := by omega
  have HC := Lib.hid hc
  have HUX := Lib.hid hux
  have HYQ := Lib.hid hyq
  have HUN := Lib.hid hun
  have HQL := Lib.hid hql
  have HYL := Lib.hid hyl
  clear h hc hux hg hsh hy hyl hyq hun
  obtain ⟨n, bl, l, cc, t⟩ := s
  obtain ⟨z0, z1, z2, z3, z4⟩ := z
  unfold aggH zeroSh at HSH
  unfold aggH at HP HG HG2 ⊢
  simp only at HP HG HG2 HSH ⊢
  obtain ⟨wa, hwa⟩ : ∃ wa, wa = w.alloc (.cells #[.int .i64 n, .int .i64 bl, .int .i64 l, .int .i64 cc, .int .i64 t] 23) := ⟨_, rfl⟩
  obtain ⟨pa, hpa⟩ : ∃ pa, pa = w.heap.size := ⟨_, rfl⟩
  have HBA : Hid (Below w.heap.size w wa) := Lib.hid (by rw [hwa]; exact (Below.refl w.heap.size w).alloc (Nat.le_refl _) _)
  have HSA : Hid (Sits wa pa 23 #[.int .i64 n, .int .i64 bl, .int .i64 l, .int .i64 cc, .int .i64 t]) := Lib.hid (by rw [hwa, hpa]; exact Sits.fresh w _ _)
  go_enter Try.func4, Try.ntmps4
  go_wp2_with fail
  rw [← hwa, ← hpa]
  clear hwa hpa
  (with_reducible refine (HP.out _).mono ?_)
  rintro e w1 ⟨rfl, hb⟩
  have HS1 := Lib.hid (HSA.out.below' hb)
  have HB1 := Lib.hid (HBA.out.trans (hb.mono HBA.out.size))
  clear hb
  go_wp2_with fail
  (with_reducible refine (HG.out _).mono ?_)
  rintro e w2 ⟨rfl, hb⟩
  have HS2 := Lib.hid (HS1.out.below' hb)
  have HB2 := Lib.hid (HB1.out.trans (hb.mono HB1.out.size))
  clear hb
  obtain ⟨wc, hwc⟩ : ∃ wc, wc = w2.alloc (.cells #[.int .i64 n, .int .i64 bl, .int .i64 l, .int .i64 cc, .int .i64 t] 23) := ⟨_, rfl⟩
  obtain ⟨pc, hpc⟩ : ∃ pc, pc = w2.heap.size := ⟨_, rfl⟩
  have hbc : Below w2.heap.size w2 wc := by rw [hwc]; exact (Below.refl w2.heap.size w2).alloc (Nat.le_refl _) _
  have hsc : Sits wc pc 23 #[.int .i64 n, .int .i64 bl, .int .i64 l, .int .i64 cc, .int .i64 t] := by rw [hwc, hpc]; exact Sits.fresh w2 _ _
  have hs := HS2.out.below' hbc
  have HB3 := Lib.hid (HB2.out.trans (hbc.mono HB2.out.size))
  have hs0 := HS2.out
  have hlt : pa < w2.heap.size := hs0.lt
  have c0 : w2.cell? ⟨pa, 0, none⟩ = some (.int .i64 n) := hs0.cell 0
  have c1 : w2.cell? ⟨pa, 1, none⟩ = some (.int .i64 bl) := hs0.cell 1
  have c2 : w2.cell? ⟨pa, 2, none⟩ = some (.int .i64 l) := hs0.cell 2
  have c3 : w2.cell? ⟨pa, 3, none⟩ = some (.int .i64 cc) := hs0.cell 3
  have c4 : w2.cell? ⟨pa, 4, none⟩ = some (.int .i64 t) := hs0.cell 4
  clear hbc hs hsc hs0
  obtain ⟨cb, Wb, rb, lb, cellb, fzb, bb⟩ := text_bytes (P := Try.prog) wc 9 37 5 y Try.underlying9 Try.underlying37 Try.underlying5
  have hbn : wc.heap.size = w2.heap.size + 1 := by rw [hwc, World.size_alloc]
  have bp : Wb.cell? ⟨w2.heap.size + 1, k % 64, none⟩ = some (.int .u8 yq) := by rw [HYQ.out, ← hbn]; exact cellb (k % 64) HQL.out
  have bf : Wb.frozen? ⟨w2.heap.size + 1, k % 64, none⟩ = false := by rw [← hbn]; exact fzb (k % 64) HQL.out
  obtain ⟨X2, hX2⟩ : ∃ X, X = Wb.setCell ⟨w2.heap.size + 1, k % 64, none⟩ (.int .u8 un) := ⟨_, rfl⟩
  have xb : ∀ j (h : j < (y.set (k % 64) u).length), X2.cell? ⟨w2.heap.size + 1, j, none⟩ = some (.int .u8 (((y.set (k % 64) u)[j]).toNat : Int)) := fun j h => by
    rw [hX2, HUN.out, ← hbn]
    exact cells_set _ _ y (k % 64) u cellb j h
  have RA := Lib.hid (text_of_cells X2 (w2.heap.size + 1) cb y.length (y.set (k % 64) u) xb (by rw [List.length_set]))
  have HBX : Hid (Below w.heap.size w X2) := Lib.hid (by
    rw [hX2, ← hbn]
    exact (HB3.out.trans (bb.mono HB3.out.size)).setCell HB3.out.size _)
  rw [hbn, hwc] at rb
  have hc := HC.out
  have hux := HUX.out
  have HX := Lib.hid hX2
  clear cellb fzb xb hbn hwc hpc bb HB3 hX2
  go_wp2_with fail
  rw [← HX.out]
  rw [RA.out]
  clear hux hc bp bf rb c0 c1 c2 c3 c4 RA
  go_wp2_with fail
  (with_reducible refine (HG2.out _).mono ?_)
  rintro e w5 ⟨rfl, hb⟩
  have HB5 := Lib.hid (HBX.out.trans (hb.mono HBX.out.size))
  clear hb
  go_wp2_with fail
  (with_reducible refine (HSH.out _).mono ?_)
  rintro e w6 ⟨rfl, hb⟩
  have hb5 := HB5.out.alloc HB5.out.size (.cells #[.int .i64 z0, .int .i64 z1, .int .i64 z2, .int .i64 z3, .int .i64 z4] 23)
  have HB6 := Lib.hid (hb5.trans (hb.mono hb5.size))
  clear hb hb5
  go_wp2_with fail
  (with_reducible refine (HA.out _).mono ?_)
  rintro e w7 ⟨rfl, hb⟩
  have hb6 := HB6.out.alloc HB6.out.size (.cells #[.int .i64 0, .int .i64 0, .int .i64 0, .int .i64 0, .int .i64 0] 23)
  have HB7 := Lib.hid (hb6.trans (hb.mono hb6.size))
  clear hb hb6
  have hc := HC.out
  cases b5 with
  | true =>
    go_wp2
    go_ret
    exact ⟨rfl, HB7.out⟩
  | false =>
    have d7 := d6 rfl
    go_wp2
    go_ret
    exact ⟨rfl, HB7.out⟩
theorem superBack_walk (v : Value) (s : Sh) (i : Int) (_wi : (Lit.int .i64 i).wf = true) (b : Int) (_wb : (Lit.int .i64 b).wf = true) (w : World) (hs : (In64 s.n ∧ In64 s.b ∧ In64 s.l ∧ In64 s.c ∧ In64 s.t) ∧ v = aggH s) :
    Calls Try.prog 4 #[v, .int .i64 i, .int .i64 b] w fun e w' => e = .returned (.bool true) ∧ Below w.heap.size w w' := by
  obtain ⟨-, rfl⟩ := hs
  clear _wi _wb
  by_cases hv : validB s = true
  · have h := validB_iff.1 hv
    by_cases hi : i < 0
    · exact superBack_low s i b w h hi
    · obtain ⟨k, rfl⟩ := Int.eq_ofNat_of_zero_le (show 0 ≤ i by omega)
      have hql : k % 64 < (superL s).length := by rw [superL_len]; omega
      by_cases h0 : b % 256 = 0
      · refine superBack_pos s k b w h 0 (by omega) (by omega) hql (superL s)[k % 64] ?_ s 0 ?_ true rfl (by simp)
        · rw [u8_xor_nat _ _ (UInt8.toNat_lt _) (by omega), Nat.xor_zero]
        · intro W
          rw [List.set_getElem_self, ← superL_str]
          exact sget_ok s h W
      · obtain ⟨u, hu, hux⟩ := xor_other (superL s)[k % 64] (b % 256).toNat (by omega) (by omega)
        refine superBack_pos s k b w h (b % 256).toNat (by omega) (by omega) hql u hux zeroSh 6 ?_ false ?_ (by simp)
        · intro W
          have e1 : superL s = (fill0 (str (textH s)) 32).data.toList ++ sum4 (fill0 (str (textH s)) 32).data.toList := by
            rw [superL, superS, stampS, append_list, str_list]
          have hch := rd_changed (fill0 (str (textH s)) 32).data.toList (k % 64) u (by rw [← e1]; exact hql) (by simpa only [← e1] using hu)
          rw [← e1] at hch
          exact sget_sum _ (by rw [str_size, List.length_set, superL_len]) hch.2 W
        · rw [beq_eq_false_iff_ne]
          omega
  · exact superBack_bad s i b w (by simpa using hv)

set_option maxRecDepth 100000 in
theorem superBack_lifted (os : Os) (started : os.Started) (H : Type) (enc : TypeId × Value → H) :
    ReturnsInHanded {} Try.checked os 4 .any (Rows.superBackSpec.pre6 enc Try.prog Try.f4 Rows.superBackRow.domain false) (Rows.superBackSpec.post enc Try.prog Try.f4 false true false false) := by
  refine returnsInHanded_of_change (C := Try.checked) own started (by kernel_rfl) Try.func4
    (ChangeSpec.witness6 (enc := enc) (C := Try.checked) false ⟨#[], #[.agg #[.int .i64 0, .int .i64 0, .int .i64 0, .int .i64 0, .int .i64 0], .int .i64 0, .int .i64 0], []⟩ 8 (by kernel_rfl) (by kernel_rfl) (by kernel_rfl) (by kernel_rfl)) ?_
  intro W base args ds gs before hval0 hW _ _
  have hval : ∀ (j : Nat) t v, Try.f4.params[j]? = some t → args[j]? = some v → Value.okWide Try.prog W .any base t v := hval0
  have hW' := hW
  obtain ⟨p, q, hA0, hV, rfl, hfz, hnd⟩ := hW
  have hA : DataW.TrodAll enc Try.prog W 0 (fun _ => true) true Try.f4.params.toList args.toList ds p := hA0
  rw [Try.params4] at hA hval
  obtain ⟨v0, vs0, d0, ds0, p0, q0, hargs, rfl, rfl, h0, r0⟩ := trodAll_cons hA
  obtain ⟨v1, vs1, d1, ds1, p1, q1, rfl, rfl, rfl, h1, r1⟩ := trodAll_cons r0
  obtain ⟨v2, vs2, d2, ds2, p2, q2, rfl, rfl, rfl, h2, r2⟩ := trodAll_cons r1
  obtain ⟨rfl, rfl, rfl⟩ := trodAll_nil r2
  obtain rfl : args = #[v0, v1, v2] := by cases args; simp_all
  obtain ⟨rfl, rfl⟩ := trodVars_none hV
  have k0 := h0
  have lt0 : ∀ x ∈ p0, x.block < W.heap.size := by obtain ⟨m, hm⟩ := k0; exact DataW.trod_lt m _ _ _ hm
  have k1 := h1
  have lt1 : ∀ x ∈ p1, x.block < W.heap.size := by obtain ⟨m, hm⟩ := k1; exact DataW.trod_lt m _ _ _ hm
  have k2 := h2
  have lt2 : ∀ x ∈ p2, x.block < W.heap.size := by obtain ⟨m, hm⟩ := k2; exact DataW.trod_lt m _ _ _ hm
  obtain ⟨a0, w0⟩ := shape_open (hval 0 23 v0 rfl rfl) k0
  obtain ⟨a1, rfl, rfl, rfl, w1⟩ := open_int Try.underlying3 (hval 1 3 v1 rfl rfl) h1
  obtain ⟨a2, rfl, rfl, rfl, w2⟩ := open_int Try.underlying3 (hval 2 3 v2 rfl rfl) h2
  clear hA0 hval0
  refine (superBack_walk v0 a0 a1 w1 a2 w2 W w0).mono fun e W' ⟨he, bel⟩ => ?_
  subst he
  exact ⟨_, rfl, _, _, _, [], _, [], hW', trodAll_mk1 (shut_bool Try.underlying4 _), (trodAll_cons_mk (Below.trod laidOut (by kernel_rfl) (of_decide_eq_true (by kernel_rfl)) k0 bel lt0) (trodAll_cons_mk (Below.trod laidOut (by kernel_rfl) (of_decide_eq_true (by kernel_rfl)) k1 bel lt1) (trodAll_cons_mk (Below.trod laidOut (by kernel_rfl) (of_decide_eq_true (by kernel_rfl)) k2 bel lt2) trodAll_mk0))), rfl, bel.frame _, fun h => by cases h⟩

theorem superBack_said : Rows.SuperBackSaid :=
  OpenClaim.holds_of_wide 4 Try.f4 rfl rfl rfl rfl rfl rfl rfl ⟨rfl, rfl, rfl, rfl, rfl⟩ rfl rfl rfl rfl rfl (by kernel_rfl) Try.func4 (by kernel_rfl)
    (of_decide_eq_true (by kernel_rfl)) (by unfold Func.isWrapper; first | (rw [if_pos (by decide +kernel)]; kernel_rfl) | (rw [if_neg (by decide +kernel)]; exact ⟨rfl, rfl⟩))
    (fun os started H enc _ => superBack_lifted os started H enc)
#print axioms superBack_said
end Go.Proofs.Ytnhfpkbnedjmlaa
