/- Package sess: a frame out of some bytes (Get), in the words of FrmP. -/
import Derived.Test.YtieodancccefiaaFrmA
namespace Go.Proofs.Ytieodancccefiaa
open Go Go.RowKit
set_option maxRecDepth 100000
set_option maxHeartbeats 2000000
set_option linter.unusedSimpArgs false

theorem fget_sum (b : List UInt8) (hb : b.length ≤ 1000000) (hs : opnE (str b) ≠ 0) (w : World) : Calls Try.prog 13 #[.string (str b)] w fun e w' => e = .returned (.tuple #[aggF zFrm, .int .i64 (opnE (str b))]) ∧ Below w.heap.size w w' := by
  have HO : Hid (∀ W : World, Calls Try.prog 35 #[.string (str b)] W fun e w' => e = .returned (.tuple #[.string (opnS (str b)), .int .i64 (opnE (str b))]) ∧ Below W.heap.size W w') := Lib.hid fun W => sumopen_all (str b) W (by rw [str_size]; omega)
  obtain ⟨E, hE⟩ : ∃ E, E = opnE (str b) := ⟨_, rfl⟩
  obtain ⟨X, hX⟩ : ∃ X, X = opnS (str b) := ⟨_, rfl⟩
  obtain ⟨B, hB⟩ : ∃ B, B = str b := ⟨_, rfl⟩
  rw [← hE] at hs
  rw [← hE, ← hX] at HO
  rw [← hE]
  rw [← hB] at HO
  rw [← hB]
  have d1 : (E != 0) = true := bne_iff_ne.2 hs
  clear hE hX hB hs
  go_enter Try.func13, Try.ntmps13
  go_wp2_with fail
  have hb0 := (Below.refl w.heap.size w).alloc (Nat.le_refl _) (.cells #[.int .i64 0, .int .i64 0, .int .i64 0, .int .i64 0, .int .i64 0, .int .i64 0, .string ⟨#[]⟩, .bool false] 23)
  refine (HO.out _).mono ?_
  rintro e w1 ⟨rfl, hb1⟩
  have HS := Lib.hid ((Sits.fresh w 23 #[.int .i64 0, .int .i64 0, .int .i64 0, .int .i64 0, .int .i64 0, .int .i64 0, .string ⟨#[]⟩, .bool false]).below' hb1)
  have HF := Lib.hid (hb0.trans (hb1.mono hb0.size))
  have z0 : w1.cell? ⟨w.heap.size, 0, none⟩ = some (.int .i64 0) := HS.out.cell 0
  have z1 : w1.cell? ⟨w.heap.size, 1, none⟩ = some (.int .i64 0) := HS.out.cell 1
  have z2 : w1.cell? ⟨w.heap.size, 2, none⟩ = some (.int .i64 0) := HS.out.cell 2
  have z3 : w1.cell? ⟨w.heap.size, 3, none⟩ = some (.int .i64 0) := HS.out.cell 3
  have z4 : w1.cell? ⟨w.heap.size, 4, none⟩ = some (.int .i64 0) := HS.out.cell 4
  have z5 : w1.cell? ⟨w.heap.size, 5, none⟩ = some (.int .i64 0) := HS.out.cell 5
  have z6 : w1.cell? ⟨w.heap.size, 6, none⟩ = some (.string ⟨#[]⟩) := HS.out.cell 6
  have z7 : w1.cell? ⟨w.heap.size, 7, none⟩ = some (.bool false) := HS.out.cell 7
  have f0 := HS.out.warm 0
  have f1 := HS.out.warm 1
  have f2 := HS.out.warm 2
  have f3 := HS.out.warm 3
  have f4 := HS.out.warm 4
  have f5 := HS.out.warm 5
  have f6 := HS.out.warm 6
  have f7 := HS.out.warm 7
  have hlt := HS.out.lt
  clear hb1 hb0
  go_wp2
  obtain ⟨Z, hZ⟩ : ∃ Z, Z = (((((((w1.setCell ⟨w.heap.size, 0, none⟩ (.int .i64 0)).setCell ⟨w.heap.size, 1, none⟩ (.int .i64 0)).setCell ⟨w.heap.size, 2, none⟩ (.int .i64 0)).setCell ⟨w.heap.size, 3, none⟩ (.int .i64 0)).setCell ⟨w.heap.size, 4, none⟩ (.int .i64 0)).setCell ⟨w.heap.size, 5, none⟩ (.int .i64 0)).setCell ⟨w.heap.size, 6, none⟩ (.string ⟨#[]⟩)).setCell ⟨w.heap.size, 7, none⟩ (.bool false) := ⟨_, rfl⟩
  have hx : Sits Z w.heap.size 23 #[.int .i64 0, .int .i64 0, .int .i64 0, .int .i64 0, .int .i64 0, .int .i64 0, .string ⟨#[]⟩, .bool false] := hZ ▸ ((((((((HS.out.put 0 (.int .i64 0)).put 1 (.int .i64 0)).put 2 (.int .i64 0)).put 3 (.int .i64 0)).put 4 (.int .i64 0)).put 5 (.int .i64 0)).put 6 (.string ⟨#[]⟩)).put 7 (.bool false))
  have hl8 : Below w.heap.size w Z := hZ ▸ ((((((((HF.out.setCell (Nat.le_refl _) _).setCell (Nat.le_refl _) _).setCell (Nat.le_refl _) _).setCell (Nat.le_refl _) _).setCell (Nat.le_refl _) _).setCell (Nat.le_refl _) _).setCell (Nat.le_refl _) _).setCell (Nat.le_refl _) _)
  rw [← hZ]
  have e0 : Z.cell? ⟨w.heap.size, 0, none⟩ = some (.int .i64 0) := hx.cell 0
  have e1 : Z.cell? ⟨w.heap.size, 1, none⟩ = some (.int .i64 0) := hx.cell 1
  have e2 : Z.cell? ⟨w.heap.size, 2, none⟩ = some (.int .i64 0) := hx.cell 2
  have e3 : Z.cell? ⟨w.heap.size, 3, none⟩ = some (.int .i64 0) := hx.cell 3
  have e4 : Z.cell? ⟨w.heap.size, 4, none⟩ = some (.int .i64 0) := hx.cell 4
  have e5 : Z.cell? ⟨w.heap.size, 5, none⟩ = some (.int .i64 0) := hx.cell 5
  have e6 : Z.cell? ⟨w.heap.size, 6, none⟩ = some (.string ⟨#[]⟩) := hx.cell 6
  have e7 : Z.cell? ⟨w.heap.size, 7, none⟩ = some (.bool false) := hx.cell 7
  clear z0 z1 z2 z3 z4 z5 z6 z7 f0 f1 f2 f3 f4 f5 f6 f7 hx hZ
  refine bodyPost_ret (v := .tuple #[.agg #[.int .i64 0, .int .i64 0, .int .i64 0, .int .i64 0, .int .i64 0, .int .i64 0, .string ⟨#[]⟩, .bool false], .int .i64 E]) ?_ rfl ⟨rfl, hl8⟩
  simp [results, Try.results13, go_sem, e0, e1, e2, e3, e4, e5, e6, e7]

theorem opnS_len (b : List UInt8) : (opnS (str b)).data.toList.length ≤ b.length := by
  unfold opnS
  split
  · simp
  · unfold openS
    split
    · rw [list_size, ByteArray.size_extract, str_size]; omega
    · simp
theorem opn_back (b t : List UInt8) (h : opnS (str b) = str t) (he : opnE (str b) = 0) : b = sum4 t ++ t := by
  by_cases hz : (str b).size < 4
  · rw [opnE, if_pos hz] at he
    cases he
  rw [str_size] at hz
  have e : b = b.take 4 ++ b.drop 4 := (List.take_append_drop 4 b).symm
  have h2 := opn_str (b.take 4) (b.drop 4) (by rw [List.length_take]; omega)
  rw [← e] at h2
  by_cases h3 : b.take 4 = sum4 (b.drop 4)
  · rw [if_pos h3, if_pos h3] at h2
    have h4 : b.drop 4 = t := str_inj (h2.1.symm.trans h)
    rw [← h4, ← h3]
    exact e
  · rw [if_neg h3, if_neg h3] at h2
    rw [h2.2] at he
    cases he
theorem rtext_len (room : Int) (s : List UInt8) (e : Int) : (rtext room s e).1.length ≤ 65535 := by
  unfold rtext
  have h := rcount_lt room s e
  split
  · split
    · split
      · simp
      · rw [List.length_take]; omega
    · simp
  · simp
theorem fget_rest (b : List UInt8) (hb : b.length ≤ 1000000) (hs : opnE (str b) = 0) (w : World) : Calls Try.prog 13 #[.string (str b)] w fun e w' => e = .returned (.tuple #[aggF (fgetT b (opnS (str b)).data.toList).1, .int .i64 (fgetT b (opnS (str b)).data.toList).2]) ∧ Below w.heap.size w w' := by
  have hol := opnS_len b
  have HO : Hid (∀ W : World, Calls Try.prog 35 #[.string (str b)] W fun e w' => e = .returned (.tuple #[.string (opnS (str b)), .int .i64 0]) ∧ Below W.heap.size W w') := Lib.hid fun W => by
    have := sumopen_all (str b) W (by rw [str_size]; omega)
    rwa [hs] at this
  obtain ⟨t, ht⟩ : ∃ t, t = (opnS (str b)).data.toList := ⟨_, rfl⟩
  have htl : t.length ≤ 1000000 := by rw [ht]; omega
  have hts : opnS (str b) = str t := by rw [ht, str_of]
  have HPB0 := Lib.hid (fun (h : fputF (frmOf (parF t)) = (b, 0)) => put_none h (opn_back b t hts hs))
  rw [← ht]
  rw [hts] at HO
  clear ht hts hs hol
  have HF := Lib.hid (frmOf_in t)
  have hp : parF t = parF t := rfl
  conv at hp => rhs; unfold parF
  simp only at hp

  obtain ⟨q1, hq1⟩ : ∃ q, q = rnum 2 t 0 := ⟨_, rfl⟩
  rw [← hq1] at hp
  have hl1 : q1.2.1.length ≤ 1000000 := by rw [hq1]; have := rnum_len 2 t 0; omega
  have hv1 : q1.1 < 65536 := by rw [hq1]; exact rnum_two _ _
  obtain ⟨v1, t1, e1⟩ := q1
  simp only at hp hl1
  simp only at hv1
  have HN1 : Hid (∀ p W, Rd W p t 0 → Calls Try.prog 37 #[.pointer (some ⟨p, 0, none⟩), .int .i64 2] W (Got W p (.int .u64 (v1 : Int)) (t1, e1))) := Lib.hid fun p W hW => by
    have := rnum_any p t 0 2 W hW (by omega)
    rw [← hq1] at this
    exact this
  obtain ⟨q2, hq2⟩ : ∃ q, q = rnum 2 t1 e1 := ⟨_, rfl⟩
  rw [← hq2] at hp
  have hl2 : q2.2.1.length ≤ 1000000 := by rw [hq2]; have := rnum_len 2 t1 e1; omega
  have hv2 : q2.1 < 65536 := by rw [hq2]; exact rnum_two _ _
  obtain ⟨v2, t2, e2⟩ := q2
  simp only at hp hl2
  simp only at hv2
  have HN2 : Hid (∀ p W, Rd W p t1 e1 → Calls Try.prog 37 #[.pointer (some ⟨p, 0, none⟩), .int .i64 2] W (Got W p (.int .u64 (v2 : Int)) (t2, e2))) := Lib.hid fun p W hW => by
    have := rnum_any p t1 e1 2 W hW (by omega)
    rw [← hq2] at this
    exact this
  obtain ⟨q3, hq3⟩ : ∃ q, q = rnum 8 t2 e2 := ⟨_, rfl⟩
  rw [← hq3] at hp
  have hl3 : q3.2.1.length ≤ 1000000 := by rw [hq3]; have := rnum_len 8 t2 e2; omega
  obtain ⟨v3, t3, e3⟩ := q3
  simp only at hp hl3
  have HN3 : Hid (∀ p W, Rd W p t2 e2 → Calls Try.prog 38 #[.pointer (some ⟨p, 0, none⟩)] W (Got W p (.int .i64 (wrap64 v3)) (t3, e3))) := Lib.hid fun p W hW => by
    have := rint_any p t2 e2 W hW (by omega)
    rw [← hq3] at this
    exact this
  obtain ⟨q4, hq4⟩ : ∃ q, q = rnum 8 t3 e3 := ⟨_, rfl⟩
  rw [← hq4] at hp
  have hl4 : q4.2.1.length ≤ 1000000 := by rw [hq4]; have := rnum_len 8 t3 e3; omega
  obtain ⟨v4, t4, e4⟩ := q4
  simp only at hp hl4
  have HN4 : Hid (∀ p W, Rd W p t3 e3 → Calls Try.prog 38 #[.pointer (some ⟨p, 0, none⟩)] W (Got W p (.int .i64 (wrap64 v4)) (t4, e4))) := Lib.hid fun p W hW => by
    have := rint_any p t3 e3 W hW (by omega)
    rw [← hq4] at this
    exact this
  obtain ⟨q5, hq5⟩ : ∃ q, q = rnum 8 t4 e4 := ⟨_, rfl⟩
  rw [← hq5] at hp
  have hl5 : q5.2.1.length ≤ 1000000 := by rw [hq5]; have := rnum_len 8 t4 e4; omega
  obtain ⟨v5, t5, e5⟩ := q5
  simp only at hp hl5
  have HN5 : Hid (∀ p W, Rd W p t4 e4 → Calls Try.prog 38 #[.pointer (some ⟨p, 0, none⟩)] W (Got W p (.int .i64 (wrap64 v5)) (t5, e5))) := Lib.hid fun p W hW => by
    have := rint_any p t4 e4 W hW (by omega)
    rw [← hq5] at this
    exact this
  obtain ⟨q6, hq6⟩ : ∃ q, q = rnum 8 t5 e5 := ⟨_, rfl⟩
  rw [← hq6] at hp
  have hl6 : q6.2.1.length ≤ 1000000 := by rw [hq6]; have := rnum_len 8 t5 e5; omega
  obtain ⟨v6, t6, e6⟩ := q6
  simp only at hp hl6
  have HN6 : Hid (∀ p W, Rd W p t5 e5 → Calls Try.prog 38 #[.pointer (some ⟨p, 0, none⟩)] W (Got W p (.int .i64 (wrap64 v6)) (t6, e6))) := Lib.hid fun p W hW => by
    have := rint_any p t5 e5 W hW (by omega)
    rw [← hq6] at this
    exact this
  obtain ⟨q7, hq7⟩ : ∃ q, q = rflag t6 e6 := ⟨_, rfl⟩
  rw [← hq7] at hp
  have hl7 : q7.2.1.length ≤ 1000000 := by rw [hq7, rflag]; have := rnum_len 1 t6 e6; split <;> simp <;> omega
  obtain ⟨fl, t7, e7⟩ := q7
  simp only at hp hl7
  have HN7 : Hid (∀ p W, Rd W p t6 e6 → Calls Try.prog 39 #[.pointer (some ⟨p, 0, none⟩)] W (Got W p (.bool fl) (t7, e7))) := Lib.hid fun p W hW => by
    have := rflag_any p t6 e6 W hW (by omega)
    rw [← hq7] at this
    exact this
  obtain ⟨q8, hq8⟩ : ∃ q, q = rtext 3000 t7 e7 := ⟨_, rfl⟩
  rw [← hq8] at hp
  have hdl : q8.1.length ≤ 65535 := by rw [hq8]; exact rtext_len _ _ _
  obtain ⟨d, t8, e8⟩ := q8
  simp only at hp
  simp only at hdl
  have HN8 : Hid (∀ p W, Rd W p t7 e7 → Calls Try.prog 40 #[.pointer (some ⟨p, 0, none⟩), .int .i64 3000] W (Got W p (.string (str d)) (t8, e8))) := Lib.hid fun p W hW => by
    have := rtext_any p t7 e7 3000 W hW (by omega)
    rw [← hq8] at this
    exact this
  rw [hp] at HF
  have HPB : Hid (fputF ⟨(v1 : Int), (v2 : Int), wrap64 v3, wrap64 v4, wrap64 v5, wrap64 v6, d, fl⟩ = (b, 0) → t8 = []) := Lib.hid fun h => by
    have h2 := HPB0.out
    rw [hp] at h2
    exact h2 h
  clear HPB0
  have hF : fgetT b t = if e8 ≠ 0 then (zFrm, e8) else if fputF ⟨(v1 : Int), (v2 : Int), wrap64 v3, wrap64 v4, wrap64 v5, wrap64 v6, d, fl⟩ = (b, 0) then (⟨(v1 : Int), (v2 : Int), wrap64 v3, wrap64 v4, wrap64 v5, wrap64 v6, d, fl⟩, 0) else (zFrm, 4) := by
    unfold fgetT
    rw [hp]
    rfl
  have HPUT : Hid (∀ W : World, _) := Lib.hid (fput_any ⟨(v1 : Int), (v2 : Int), wrap64 v3, wrap64 v4, wrap64 v5, wrap64 v6, d, fl⟩ HF.out (by simp only; omega))
  have hu1 : IntKind.i64.wrap (v1 : Int) = (v1 : Int) := by rw [IntKind.wrap_i64]; omega
  have hu2 : IntKind.i64.wrap (v2 : Int) = (v2 : Int) := by rw [IntKind.wrap_i64]; omega

  rw [hF]
  obtain ⟨⟨ps, pe⟩, hP⟩ : ∃ P, P = fputF ⟨(v1 : Int), (v2 : Int), wrap64 v3, wrap64 v4, wrap64 v5, wrap64 v6, d, fl⟩ := ⟨_, rfl⟩
  rw [← hP] at HPUT HPB ⊢
  simp only at HPUT
  obtain ⟨G, hG⟩ : ∃ G, G = (if e8 ≠ 0 then (zFrm, e8) else if (ps, pe) = (b, 0) then (⟨(v1 : Int), (v2 : Int), wrap64 v3, wrap64 v4, wrap64 v5, wrap64 v6, d, fl⟩, 0) else (zFrm, 4) : Frm × Int) := ⟨_, rfl⟩
  rw [← hG]
  have HG := Lib.hid hG
  unfold aggF at HPUT
  simp only at HPUT
  obtain ⟨D, hD⟩ : ∃ D, D = str d := ⟨_, rfl⟩
  rw [← hD] at HPUT HN8
  obtain ⟨Y, hY⟩ : ∃ Y, Y = str b := ⟨_, rfl⟩
  rw [← hY] at HO
  rw [← hY]
  have HY := Lib.hid hY
  have HD := Lib.hid hD
  clear hY hD hG hP hF HF hdl hl1 hl2 hl3 hl4 hl5 hl6 hl7 hv1 hv2 htl hq1 hq2 hq3 hq4 hq5 hq6 hq7 hq8 hp
  go_enter Try.func13, Try.ntmps13
  go_wp2_with fail
  have hb0 := (Below.refl w.heap.size w).alloc (Nat.le_refl _) (.cells #[.int .i64 0, .int .i64 0, .int .i64 0, .int .i64 0, .int .i64 0, .int .i64 0, .string ⟨#[]⟩, .bool false] 23)
  refine (HO.out _).mono ?_
  rintro e w1 ⟨rfl, hb1⟩
  have HS1 := Lib.hid ((Sits.fresh w 23 #[.int .i64 0, .int .i64 0, .int .i64 0, .int .i64 0, .int .i64 0, .int .i64 0, .string ⟨#[]⟩, .bool false]).below' hb1)
  have HB1 := Lib.hid (hb0.trans (hb1.mono hb0.size))
  clear hb1 hb0
  go_wp2_with fail
  refine (newreader_any (str t) _).mono ?_
  rintro e w2 ⟨rfl, hr, hb2⟩
  rw [str_list] at hr
  have hpl : w.heap.size < w1.heap.size := HS1.out.lt
  obtain ⟨pr, hpr⟩ : ∃ pr, pr = w1.heap.size := ⟨_, rfl⟩
  rw [← hpr] at hpl hr
  rw [← hpr]
  have HS2 := Lib.hid (HS1.out.below' hb2)
  have HB2 := Lib.hid (HB1.out.trans (hb2.mono HB1.out.size))
  have HR2 := Lib.hid hr
  clear hr hb2 hpr HS1 HB1
  go_wp2_with fail
  refine (HN1.out _ _ HR2.out).mono ?_
  rintro e w3 ⟨rfl, hr, ho⟩
  have HS3 := Lib.hid (HS2.out.only ho (by omega))
  have HB3 := Lib.hid (Below.then_only HB2.out ho (by omega) HB2.out.size)
  have HR3 := Lib.hid hr
  clear hr ho HS2 HB2 HR2
  go_wp2_with fail
  refine (HN2.out _ _ HR3.out).mono ?_
  rintro e w4 ⟨rfl, hr, ho⟩
  have HS4 := Lib.hid (HS3.out.only ho (by omega))
  have HB4 := Lib.hid (Below.then_only HB3.out ho (by omega) HB3.out.size)
  have HR4 := Lib.hid hr
  clear hr ho HS3 HB3 HR3
  go_wp2_with fail
  refine (HN3.out _ _ HR4.out).mono ?_
  rintro e w5 ⟨rfl, hr, ho⟩
  have HS5 := Lib.hid (HS4.out.only ho (by omega))
  have HB5 := Lib.hid (Below.then_only HB4.out ho (by omega) HB4.out.size)
  have HR5 := Lib.hid hr
  clear hr ho HS4 HB4 HR4
  go_wp2_with fail
  refine (HN4.out _ _ HR5.out).mono ?_
  rintro e w6 ⟨rfl, hr, ho⟩
  have HS6 := Lib.hid (HS5.out.only ho (by omega))
  have HB6 := Lib.hid (Below.then_only HB5.out ho (by omega) HB5.out.size)
  have HR6 := Lib.hid hr
  clear hr ho HS5 HB5 HR5
  go_wp2_with fail
  refine (HN5.out _ _ HR6.out).mono ?_
  rintro e w7 ⟨rfl, hr, ho⟩
  have HS7 := Lib.hid (HS6.out.only ho (by omega))
  have HB7 := Lib.hid (Below.then_only HB6.out ho (by omega) HB6.out.size)
  have HR7 := Lib.hid hr
  clear hr ho HS6 HB6 HR6
  go_wp2_with fail
  refine (HN6.out _ _ HR7.out).mono ?_
  rintro e w8 ⟨rfl, hr, ho⟩
  have HS8 := Lib.hid (HS7.out.only ho (by omega))
  have HB8 := Lib.hid (Below.then_only HB7.out ho (by omega) HB7.out.size)
  have HR8 := Lib.hid hr
  clear hr ho HS7 HB7 HR7
  go_wp2_with fail
  refine (HN7.out _ _ HR8.out).mono ?_
  rintro e w9 ⟨rfl, hr, ho⟩
  have HS9 := Lib.hid (HS8.out.only ho (by omega))
  have HB9 := Lib.hid (Below.then_only HB8.out ho (by omega) HB8.out.size)
  have HR9 := Lib.hid hr
  clear hr ho HS8 HB8 HR8
  go_wp2_with fail
  refine (HN8.out _ _ HR9.out).mono ?_
  rintro e w10 ⟨rfl, hr, ho⟩
  have HS10 := Lib.hid (HS9.out.only ho (by omega))
  have HB10 := Lib.hid (Below.then_only HB9.out ho (by omega) HB9.out.size)
  have HR10 := Lib.hid hr
  clear hr ho HS9 HB9 HR9
  obtain ⟨gf, hgf⟩ : ∃ x, x = w10.heap.size := ⟨_, rfl⟩
  obtain ⟨wf, hwf⟩ : ∃ x, x = w10.alloc (.cells #[.int .i64 (v1 : Int), .int .i64 (v2 : Int), .int .i64 (wrap64 v3), .int .i64 (wrap64 v4), .int .i64 (wrap64 v5), .int .i64 (wrap64 v6), .string D, .bool fl] 23) := ⟨_, rfl⟩
  have HT : Hid (Sits wf gf 23 #[.int .i64 (v1 : Int), .int .i64 (v2 : Int), .int .i64 (wrap64 v3), .int .i64 (wrap64 v4), .int .i64 (wrap64 v5), .int .i64 (wrap64 v6), .string D, .bool fl]) := Lib.hid (by rw [hwf, hgf]; exact Sits.fresh w10 _ _)
  have hbf : Below w10.heap.size w10 wf := hwf ▸ (Below.refl _ _).alloc (Nat.le_refl _) _
  have HSf := Lib.hid (HS10.out.below' hbf)
  have HBf := Lib.hid (HB10.out.trans (hbf.mono HB10.out.size))
  have HRf := Lib.hid (HR10.out.below hbf)
  clear hbf
  go_wp2_with fail
  rw [← hwf, ← hgf]
  clear hwf HS10 HB10 HR10
  have HGF := Lib.hid hgf
  clear hgf
  refine (rerr_any _ _ _ _ HRf.out).mono ?_
  rintro e wg ⟨rfl, rfl⟩
  by_cases h8 : e8 ≠ 0
  · have d8 : (e8 != 0) = true := bne_iff_ne.2 h8
    have hGz : G = (zFrm, e8) := by rw [HG.out, if_pos h8]
    subst hGz
    have z0 : wf.cell? ⟨w.heap.size, 0, none⟩ = some (.int .i64 0) := HSf.out.cell 0
    have z1 : wf.cell? ⟨w.heap.size, 1, none⟩ = some (.int .i64 0) := HSf.out.cell 1
    have z2 : wf.cell? ⟨w.heap.size, 2, none⟩ = some (.int .i64 0) := HSf.out.cell 2
    have z3 : wf.cell? ⟨w.heap.size, 3, none⟩ = some (.int .i64 0) := HSf.out.cell 3
    have z4 : wf.cell? ⟨w.heap.size, 4, none⟩ = some (.int .i64 0) := HSf.out.cell 4
    have z5 : wf.cell? ⟨w.heap.size, 5, none⟩ = some (.int .i64 0) := HSf.out.cell 5
    have z6 : wf.cell? ⟨w.heap.size, 6, none⟩ = some (.string ⟨#[]⟩) := HSf.out.cell 6
    have z7 : wf.cell? ⟨w.heap.size, 7, none⟩ = some (.bool false) := HSf.out.cell 7
    have f0 := HSf.out.warm 0
    have f1 := HSf.out.warm 1
    have f2 := HSf.out.warm 2
    have f3 := HSf.out.warm 3
    have f4 := HSf.out.warm 4
    have f5 := HSf.out.warm 5
    have f6 := HSf.out.warm 6
    have f7 := HSf.out.warm 7
    have hlt := HSf.out.lt
    clear h8
    go_wp2
    obtain ⟨Z, hZ⟩ : ∃ Z, Z = (((((((wf.setCell ⟨w.heap.size, 0, none⟩ (.int .i64 0)).setCell ⟨w.heap.size, 1, none⟩ (.int .i64 0)).setCell ⟨w.heap.size, 2, none⟩ (.int .i64 0)).setCell ⟨w.heap.size, 3, none⟩ (.int .i64 0)).setCell ⟨w.heap.size, 4, none⟩ (.int .i64 0)).setCell ⟨w.heap.size, 5, none⟩ (.int .i64 0)).setCell ⟨w.heap.size, 6, none⟩ (.string ⟨#[]⟩)).setCell ⟨w.heap.size, 7, none⟩ (.bool false) := ⟨_, rfl⟩
    have hx : Sits Z w.heap.size 23 #[.int .i64 0, .int .i64 0, .int .i64 0, .int .i64 0, .int .i64 0, .int .i64 0, .string ⟨#[]⟩, .bool false] := hZ ▸ ((((((((HSf.out.put 0 (.int .i64 0)).put 1 (.int .i64 0)).put 2 (.int .i64 0)).put 3 (.int .i64 0)).put 4 (.int .i64 0)).put 5 (.int .i64 0)).put 6 (.string ⟨#[]⟩)).put 7 (.bool false))
    have hl8 : Below w.heap.size w Z := hZ ▸ ((((((((HBf.out.setCell (Nat.le_refl _) _).setCell (Nat.le_refl _) _).setCell (Nat.le_refl _) _).setCell (Nat.le_refl _) _).setCell (Nat.le_refl _) _).setCell (Nat.le_refl _) _).setCell (Nat.le_refl _) _).setCell (Nat.le_refl _) _)
    rw [← hZ]
    have e0 : Z.cell? ⟨w.heap.size, 0, none⟩ = some (.int .i64 0) := hx.cell 0
    have e1 : Z.cell? ⟨w.heap.size, 1, none⟩ = some (.int .i64 0) := hx.cell 1
    have e2 : Z.cell? ⟨w.heap.size, 2, none⟩ = some (.int .i64 0) := hx.cell 2
    have e3 : Z.cell? ⟨w.heap.size, 3, none⟩ = some (.int .i64 0) := hx.cell 3
    have e4 : Z.cell? ⟨w.heap.size, 4, none⟩ = some (.int .i64 0) := hx.cell 4
    have e5 : Z.cell? ⟨w.heap.size, 5, none⟩ = some (.int .i64 0) := hx.cell 5
    have e6 : Z.cell? ⟨w.heap.size, 6, none⟩ = some (.string ⟨#[]⟩) := hx.cell 6
    have e7 : Z.cell? ⟨w.heap.size, 7, none⟩ = some (.bool false) := hx.cell 7
    clear z0 z1 z2 z3 z4 z5 z6 z7 f0 f1 f2 f3 f4 f5 f6 f7 hx hZ
    refine bodyPost_ret (v := .tuple #[.agg #[.int .i64 0, .int .i64 0, .int .i64 0, .int .i64 0, .int .i64 0, .int .i64 0, .string ⟨#[]⟩, .bool false], .int .i64 e8]) ?_ rfl ⟨rfl, hl8⟩
    simp [results, Try.results13, go_sem, e0, e1, e2, e3, e4, e5, e6, e7]
  have h8' : e8 = 0 := Decidable.not_not.1 h8
  subst h8'
  have g0 : wf.cell? ⟨gf, 0, none⟩ = some (.int .i64 (v1 : Int)) := HT.out.cell 0
  have g1 : wf.cell? ⟨gf, 1, none⟩ = some (.int .i64 (v2 : Int)) := HT.out.cell 1
  have g2 : wf.cell? ⟨gf, 2, none⟩ = some (.int .i64 (wrap64 v3)) := HT.out.cell 2
  have g3 : wf.cell? ⟨gf, 3, none⟩ = some (.int .i64 (wrap64 v4)) := HT.out.cell 3
  have g4 : wf.cell? ⟨gf, 4, none⟩ = some (.int .i64 (wrap64 v5)) := HT.out.cell 4
  have g5 : wf.cell? ⟨gf, 5, none⟩ = some (.int .i64 (wrap64 v6)) := HT.out.cell 5
  have g6 : wf.cell? ⟨gf, 6, none⟩ = some (.string D) := HT.out.cell 6
  have g7 : wf.cell? ⟨gf, 7, none⟩ = some (.bool fl) := HT.out.cell 7
  go_wp2_with fail
  clear g0 g1 g2 g3 g4 g5 g6 g7
  refine (HPUT.out _).mono ?_
  rintro e wp ⟨rfl, hbp⟩
  have HSp := Lib.hid (HSf.out.below' hbp)
  have HTp := Lib.hid (HT.out.below' hbp)
  have HBp := Lib.hid (HBf.out.trans (hbp.mono HBf.out.size))
  clear hbp HSf HBf HT HRf
  have z0 : wp.cell? ⟨w.heap.size, 0, none⟩ = some (.int .i64 0) := HSp.out.cell 0
  have z1 : wp.cell? ⟨w.heap.size, 1, none⟩ = some (.int .i64 0) := HSp.out.cell 1
  have z2 : wp.cell? ⟨w.heap.size, 2, none⟩ = some (.int .i64 0) := HSp.out.cell 2
  have z3 : wp.cell? ⟨w.heap.size, 3, none⟩ = some (.int .i64 0) := HSp.out.cell 3
  have z4 : wp.cell? ⟨w.heap.size, 4, none⟩ = some (.int .i64 0) := HSp.out.cell 4
  have z5 : wp.cell? ⟨w.heap.size, 5, none⟩ = some (.int .i64 0) := HSp.out.cell 5
  have z6 : wp.cell? ⟨w.heap.size, 6, none⟩ = some (.string ⟨#[]⟩) := HSp.out.cell 6
  have z7 : wp.cell? ⟨w.heap.size, 7, none⟩ = some (.bool false) := HSp.out.cell 7
  have f0 := HSp.out.warm 0
  have f1 := HSp.out.warm 1
  have f2 := HSp.out.warm 2
  have f3 := HSp.out.warm 3
  have f4 := HSp.out.warm 4
  have f5 := HSp.out.warm 5
  have f6 := HSp.out.warm 6
  have f7 := HSp.out.warm 7
  have hlt := HSp.out.lt
  by_cases h9 : pe = 0
  rotate_left
  · have d9 : (pe != 0) = true := bne_iff_ne.2 h9
    have hGz : G = (zFrm, 4) := by rw [HG.out, if_neg (by simp), if_neg (fun h => h9 (congrArg Prod.snd h))]
    subst hGz
    go_wp2
    obtain ⟨Z, hZ⟩ : ∃ Z, Z = (((((((wp.setCell ⟨w.heap.size, 0, none⟩ (.int .i64 0)).setCell ⟨w.heap.size, 1, none⟩ (.int .i64 0)).setCell ⟨w.heap.size, 2, none⟩ (.int .i64 0)).setCell ⟨w.heap.size, 3, none⟩ (.int .i64 0)).setCell ⟨w.heap.size, 4, none⟩ (.int .i64 0)).setCell ⟨w.heap.size, 5, none⟩ (.int .i64 0)).setCell ⟨w.heap.size, 6, none⟩ (.string ⟨#[]⟩)).setCell ⟨w.heap.size, 7, none⟩ (.bool false) := ⟨_, rfl⟩
    have hx : Sits Z w.heap.size 23 #[.int .i64 0, .int .i64 0, .int .i64 0, .int .i64 0, .int .i64 0, .int .i64 0, .string ⟨#[]⟩, .bool false] := hZ ▸ ((((((((HSp.out.put 0 (.int .i64 0)).put 1 (.int .i64 0)).put 2 (.int .i64 0)).put 3 (.int .i64 0)).put 4 (.int .i64 0)).put 5 (.int .i64 0)).put 6 (.string ⟨#[]⟩)).put 7 (.bool false))
    have hl8 : Below w.heap.size w Z := hZ ▸ ((((((((HBp.out.setCell (Nat.le_refl _) _).setCell (Nat.le_refl _) _).setCell (Nat.le_refl _) _).setCell (Nat.le_refl _) _).setCell (Nat.le_refl _) _).setCell (Nat.le_refl _) _).setCell (Nat.le_refl _) _).setCell (Nat.le_refl _) _)
    rw [← hZ]
    have e0 : Z.cell? ⟨w.heap.size, 0, none⟩ = some (.int .i64 0) := hx.cell 0
    have e1 : Z.cell? ⟨w.heap.size, 1, none⟩ = some (.int .i64 0) := hx.cell 1
    have e2 : Z.cell? ⟨w.heap.size, 2, none⟩ = some (.int .i64 0) := hx.cell 2
    have e3 : Z.cell? ⟨w.heap.size, 3, none⟩ = some (.int .i64 0) := hx.cell 3
    have e4 : Z.cell? ⟨w.heap.size, 4, none⟩ = some (.int .i64 0) := hx.cell 4
    have e5 : Z.cell? ⟨w.heap.size, 5, none⟩ = some (.int .i64 0) := hx.cell 5
    have e6 : Z.cell? ⟨w.heap.size, 6, none⟩ = some (.string ⟨#[]⟩) := hx.cell 6
    have e7 : Z.cell? ⟨w.heap.size, 7, none⟩ = some (.bool false) := hx.cell 7
    clear z0 z1 z2 z3 z4 z5 z6 z7 f0 f1 f2 f3 f4 f5 f6 f7 hx hZ
    refine bodyPost_ret (v := .tuple #[.agg #[.int .i64 0, .int .i64 0, .int .i64 0, .int .i64 0, .int .i64 0, .int .i64 0, .string ⟨#[]⟩, .bool false], .int .i64 4]) ?_ rfl ⟨rfl, hl8⟩
    simp [results, Try.results13, go_sem, e0, e1, e2, e3, e4, e5, e6, e7]
  subst h9
  by_cases h10 : ps = b
  rotate_left
  · have hne := ne_no (a := str ps) (b := Y) (fun e => h10 (str_inj (e.trans HY.out)))
    generalize str ps = z at hne
    have hGz : G = (zFrm, 4) := by rw [HG.out, if_neg (by simp), if_neg (fun h => h10 (congrArg Prod.fst h))]
    subst hGz
    go_wp2
    obtain ⟨Z, hZ⟩ : ∃ Z, Z = (((((((wp.setCell ⟨w.heap.size, 0, none⟩ (.int .i64 0)).setCell ⟨w.heap.size, 1, none⟩ (.int .i64 0)).setCell ⟨w.heap.size, 2, none⟩ (.int .i64 0)).setCell ⟨w.heap.size, 3, none⟩ (.int .i64 0)).setCell ⟨w.heap.size, 4, none⟩ (.int .i64 0)).setCell ⟨w.heap.size, 5, none⟩ (.int .i64 0)).setCell ⟨w.heap.size, 6, none⟩ (.string ⟨#[]⟩)).setCell ⟨w.heap.size, 7, none⟩ (.bool false) := ⟨_, rfl⟩
    have hx : Sits Z w.heap.size 23 #[.int .i64 0, .int .i64 0, .int .i64 0, .int .i64 0, .int .i64 0, .int .i64 0, .string ⟨#[]⟩, .bool false] := hZ ▸ ((((((((HSp.out.put 0 (.int .i64 0)).put 1 (.int .i64 0)).put 2 (.int .i64 0)).put 3 (.int .i64 0)).put 4 (.int .i64 0)).put 5 (.int .i64 0)).put 6 (.string ⟨#[]⟩)).put 7 (.bool false))
    have hl8 : Below w.heap.size w Z := hZ ▸ ((((((((HBp.out.setCell (Nat.le_refl _) _).setCell (Nat.le_refl _) _).setCell (Nat.le_refl _) _).setCell (Nat.le_refl _) _).setCell (Nat.le_refl _) _).setCell (Nat.le_refl _) _).setCell (Nat.le_refl _) _).setCell (Nat.le_refl _) _)
    rw [← hZ]
    have e0 : Z.cell? ⟨w.heap.size, 0, none⟩ = some (.int .i64 0) := hx.cell 0
    have e1 : Z.cell? ⟨w.heap.size, 1, none⟩ = some (.int .i64 0) := hx.cell 1
    have e2 : Z.cell? ⟨w.heap.size, 2, none⟩ = some (.int .i64 0) := hx.cell 2
    have e3 : Z.cell? ⟨w.heap.size, 3, none⟩ = some (.int .i64 0) := hx.cell 3
    have e4 : Z.cell? ⟨w.heap.size, 4, none⟩ = some (.int .i64 0) := hx.cell 4
    have e5 : Z.cell? ⟨w.heap.size, 5, none⟩ = some (.int .i64 0) := hx.cell 5
    have e6 : Z.cell? ⟨w.heap.size, 6, none⟩ = some (.string ⟨#[]⟩) := hx.cell 6
    have e7 : Z.cell? ⟨w.heap.size, 7, none⟩ = some (.bool false) := hx.cell 7
    clear z0 z1 z2 z3 z4 z5 z6 z7 f0 f1 f2 f3 f4 f5 f6 f7 hx hZ
    refine bodyPost_ret (v := .tuple #[.agg #[.int .i64 0, .int .i64 0, .int .i64 0, .int .i64 0, .int .i64 0, .int .i64 0, .string ⟨#[]⟩, .bool false], .int .i64 4]) ?_ rfl ⟨rfl, hl8⟩
    simp [results, Try.results13, go_sem, e0, e1, e2, e3, e4, e5, e6, e7]
  have hGz : G = (⟨(v1 : Int), (v2 : Int), wrap64 v3, wrap64 v4, wrap64 v5, wrap64 v6, d, fl⟩, 0) := by rw [HG.out, if_neg (by simp), if_pos (by rw [h10])]
  subst hGz
  have hne := ne_yes (a := str ps) (b := Y) (by rw [h10]; exact HY.out.symm)
  generalize str ps = z at hne
  have g0 : wp.cell? ⟨gf, 0, none⟩ = some (.int .i64 (v1 : Int)) := HTp.out.cell 0
  have g1 : wp.cell? ⟨gf, 1, none⟩ = some (.int .i64 (v2 : Int)) := HTp.out.cell 1
  have g2 : wp.cell? ⟨gf, 2, none⟩ = some (.int .i64 (wrap64 v3)) := HTp.out.cell 2
  have g3 : wp.cell? ⟨gf, 3, none⟩ = some (.int .i64 (wrap64 v4)) := HTp.out.cell 3
  have g4 : wp.cell? ⟨gf, 4, none⟩ = some (.int .i64 (wrap64 v5)) := HTp.out.cell 4
  have g5 : wp.cell? ⟨gf, 5, none⟩ = some (.int .i64 (wrap64 v6)) := HTp.out.cell 5
  have g6 : wp.cell? ⟨gf, 6, none⟩ = some (.string D) := HTp.out.cell 6
  have g7 : wp.cell? ⟨gf, 7, none⟩ = some (.bool fl) := HTp.out.cell 7
  clear h10 h8
  go_wp2
  clear g0 g1 g2 g3 g4 g5 g6 g7 hne
  obtain ⟨Z, hZ⟩ : ∃ Z, Z = (((((((wp.setCell ⟨w.heap.size, 0, none⟩ (.int .i64 (v1 : Int))).setCell ⟨w.heap.size, 1, none⟩ (.int .i64 (v2 : Int))).setCell ⟨w.heap.size, 2, none⟩ (.int .i64 (wrap64 v3))).setCell ⟨w.heap.size, 3, none⟩ (.int .i64 (wrap64 v4))).setCell ⟨w.heap.size, 4, none⟩ (.int .i64 (wrap64 v5))).setCell ⟨w.heap.size, 5, none⟩ (.int .i64 (wrap64 v6))).setCell ⟨w.heap.size, 6, none⟩ (.string D)).setCell ⟨w.heap.size, 7, none⟩ (.bool fl) := ⟨_, rfl⟩
  have hx : Sits Z w.heap.size 23 #[.int .i64 (v1 : Int), .int .i64 (v2 : Int), .int .i64 (wrap64 v3), .int .i64 (wrap64 v4), .int .i64 (wrap64 v5), .int .i64 (wrap64 v6), .string D, .bool fl] := hZ ▸ ((((((((HSp.out.put 0 (.int .i64 (v1 : Int))).put 1 (.int .i64 (v2 : Int))).put 2 (.int .i64 (wrap64 v3))).put 3 (.int .i64 (wrap64 v4))).put 4 (.int .i64 (wrap64 v5))).put 5 (.int .i64 (wrap64 v6))).put 6 (.string D)).put 7 (.bool fl))
  have hl8 : Below w.heap.size w Z := hZ ▸ ((((((((HBp.out.setCell (Nat.le_refl _) _).setCell (Nat.le_refl _) _).setCell (Nat.le_refl _) _).setCell (Nat.le_refl _) _).setCell (Nat.le_refl _) _).setCell (Nat.le_refl _) _).setCell (Nat.le_refl _) _).setCell (Nat.le_refl _) _)
  rw [← hZ]
  have e0 : Z.cell? ⟨w.heap.size, 0, none⟩ = some (.int .i64 (v1 : Int)) := hx.cell 0
  have e1 : Z.cell? ⟨w.heap.size, 1, none⟩ = some (.int .i64 (v2 : Int)) := hx.cell 1
  have e2 : Z.cell? ⟨w.heap.size, 2, none⟩ = some (.int .i64 (wrap64 v3)) := hx.cell 2
  have e3 : Z.cell? ⟨w.heap.size, 3, none⟩ = some (.int .i64 (wrap64 v4)) := hx.cell 3
  have e4 : Z.cell? ⟨w.heap.size, 4, none⟩ = some (.int .i64 (wrap64 v5)) := hx.cell 4
  have e5 : Z.cell? ⟨w.heap.size, 5, none⟩ = some (.int .i64 (wrap64 v6)) := hx.cell 5
  have e6 : Z.cell? ⟨w.heap.size, 6, none⟩ = some (.string D) := hx.cell 6
  have e7 : Z.cell? ⟨w.heap.size, 7, none⟩ = some (.bool fl) := hx.cell 7
  clear z0 z1 z2 z3 z4 z5 z6 z7 f0 f1 f2 f3 f4 f5 f6 f7 hx hZ
  refine bodyPost_ret (v := .tuple #[.agg #[.int .i64 (v1 : Int), .int .i64 (v2 : Int), .int .i64 (wrap64 v3), .int .i64 (wrap64 v4), .int .i64 (wrap64 v5), .int .i64 (wrap64 v6), .string D, .bool fl], .int .i64 0]) ?_ rfl ⟨by unfold aggF; rw [HD.out], hl8⟩
  simp [results, Try.results13, go_sem, e0, e1, e2, e3, e4, e5, e6, e7]
theorem fget_any (b : List UInt8) (hb : b.length ≤ 1000000) (w : World) : Calls Try.prog 13 #[.string (str b)] w fun e w' => e = .returned (.tuple #[aggF (fgetF b).1, .int .i64 (fgetF b).2]) ∧ Below w.heap.size w w' := by
  unfold fgetF
  by_cases h : opnE (str b) ≠ 0
  · rw [if_pos h]
    exact fget_sum b hb h w
  · rw [if_neg h]
    exact fget_rest b hb (Decidable.not_not.1 h) w
end Go.Proofs.Ytieodancccefiaa
