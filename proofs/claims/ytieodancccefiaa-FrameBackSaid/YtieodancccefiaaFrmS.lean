/- The document's own frames (commonsref14): GetFrame, in the words of FrmP. -/
import Derived.Test.YtieodancccefiaaFrmB
import Derived.Test.YtieodancccefiaaFrmR
import Derived.Test.YtieodancccefiaaRefRF
namespace Go.Proofs.Ytieodancccefiaa
open Go Go.RowKit
set_option maxRecDepth 100000
set_option maxHeartbeats 16000000
set_option linter.unusedSimpArgs false

theorem rr_away {w : World} {q : Nat} {s : List UInt8} {e : Int} (h : RR w q s e) {g : Nat} (hne : q ≠ g) (i : Nat) (v : Value) : RR (w.setCell ⟨g, i, none⟩ v) q s e := by
  obtain ⟨s', hs, r⟩ := h
  exact ⟨s', hs.away (p := ⟨g, i, none⟩) hne v, r⟩
theorem rfget_sum (b : List UInt8) (hb : b.length ≤ 1000000) (hs : opnE (str b) ≠ 0) (w : World) : Calls Try.prog 14 #[.string (str b)] w fun e w' => e = .returned (.tuple #[aggF zFrm, .int .i64 (opnE (str b))]) ∧ Below w.heap.size w w' := by
  have HO : Hid (∀ W : World, Calls Try.prog 42 #[.string (str b)] W fun e w' => e = .returned (.tuple #[.string (opnS (str b)), .int .i64 (opnE (str b))]) ∧ Below W.heap.size W w') := Lib.hid fun W => refopen_all (str b) W (by rw [str_size]; omega)
  obtain ⟨E, hE⟩ : ∃ E, E = opnE (str b) := ⟨_, rfl⟩
  obtain ⟨X, hX⟩ : ∃ X, X = opnS (str b) := ⟨_, rfl⟩
  obtain ⟨B, hB⟩ : ∃ B, B = str b := ⟨_, rfl⟩
  rw [← hE] at hs
  rw [← hE, ← hX] at HO
  rw [← hE]
  rw [← hB] at HO
  rw [← hB]
  have d1 : (E != 0) = true := bne_iff_ne.2 hs
  clear hE hX hB hs
  go_enter Try.func14, Try.ntmps14
  go_wp2_with fail
  have hb0 := (Below.refl w.heap.size w).alloc (Nat.le_refl _) (.cells #[.int .i64 0, .int .i64 0, .int .i64 0, .int .i64 0, .int .i64 0, .int .i64 0, .string ⟨#[]⟩, .bool false] 29)
  refine (HO.out _).mono ?_
  rintro e w1 ⟨rfl, hb1⟩
  have HS := Lib.hid ((Sits.fresh w 29 #[.int .i64 0, .int .i64 0, .int .i64 0, .int .i64 0, .int .i64 0, .int .i64 0, .string ⟨#[]⟩, .bool false]).below' hb1)
  have HF := Lib.hid (hb0.trans (hb1.mono hb0.size))
  have z0 : w1.cell? ⟨w.heap.size, 0, none⟩ = some (.int .i64 0) := HS.out.cell 0
  have z1 : w1.cell? ⟨w.heap.size, 1, none⟩ = some (.int .i64 0) := HS.out.cell 1
  have z2 : w1.cell? ⟨w.heap.size, 2, none⟩ = some (.int .i64 0) := HS.out.cell 2
  have z3 : w1.cell? ⟨w.heap.size, 3, none⟩ = some (.int .i64 0) := HS.out.cell 3
  have z4 : w1.cell? ⟨w.heap.size, 4, none⟩ = some (.int .i64 0) := HS.out.cell 4
  have z5 : w1.cell? ⟨w.heap.size, 5, none⟩ = some (.int .i64 0) := HS.out.cell 5
  have z6 : w1.cell? ⟨w.heap.size, 6, none⟩ = some (.string ⟨#[]⟩) := HS.out.cell 6
  have z7 : w1.cell? ⟨w.heap.size, 7, none⟩ = some (.bool false) := HS.out.cell 7
  have f0 := HS.out.warm 0
  have f1 := HS.out.warm 1
  have f2 := HS.out.warm 2
  have f3 := HS.out.warm 3
  have f4 := HS.out.warm 4
  have f5 := HS.out.warm 5
  have f6 := HS.out.warm 6
  have f7 := HS.out.warm 7
  have hlt := HS.out.lt
  clear hb1 hb0
  go_wp2
  obtain ⟨Z, hZ⟩ : ∃ Z, Z = (((((((w1.setCell ⟨w.heap.size, 0, none⟩ (.int .i64 0)).setCell ⟨w.heap.size, 1, none⟩ (.int .i64 0)).setCell ⟨w.heap.size, 2, none⟩ (.int .i64 0)).setCell ⟨w.heap.size, 3, none⟩ (.int .i64 0)).setCell ⟨w.heap.size, 4, none⟩ (.int .i64 0)).setCell ⟨w.heap.size, 5, none⟩ (.int .i64 0)).setCell ⟨w.heap.size, 6, none⟩ (.string ⟨#[]⟩)).setCell ⟨w.heap.size, 7, none⟩ (.bool false) := ⟨_, rfl⟩
  have hx : Sits Z w.heap.size 29 #[.int .i64 0, .int .i64 0, .int .i64 0, .int .i64 0, .int .i64 0, .int .i64 0, .string ⟨#[]⟩, .bool false] := hZ ▸ ((((((((HS.out.put 0 (.int .i64 0)).put 1 (.int .i64 0)).put 2 (.int .i64 0)).put 3 (.int .i64 0)).put 4 (.int .i64 0)).put 5 (.int .i64 0)).put 6 (.string ⟨#[]⟩)).put 7 (.bool false))
  have hl8 : Below w.heap.size w Z := hZ ▸ ((((((((HF.out.setCell (Nat.le_refl _) _).setCell (Nat.le_refl _) _).setCell (Nat.le_refl _) _).setCell (Nat.le_refl _) _).setCell (Nat.le_refl _) _).setCell (Nat.le_refl _) _).setCell (Nat.le_refl _) _).setCell (Nat.le_refl _) _)
  rw [← hZ]
  have e0 : Z.cell? ⟨w.heap.size, 0, none⟩ = some (.int .i64 0) := hx.cell 0
  have e1 : Z.cell? ⟨w.heap.size, 1, none⟩ = some (.int .i64 0) := hx.cell 1
  have e2 : Z.cell? ⟨w.heap.size, 2, none⟩ = some (.int .i64 0) := hx.cell 2
  have e3 : Z.cell? ⟨w.heap.size, 3, none⟩ = some (.int .i64 0) := hx.cell 3
  have e4 : Z.cell? ⟨w.heap.size, 4, none⟩ = some (.int .i64 0) := hx.cell 4
  have e5 : Z.cell? ⟨w.heap.size, 5, none⟩ = some (.int .i64 0) := hx.cell 5
  have e6 : Z.cell? ⟨w.heap.size, 6, none⟩ = some (.string ⟨#[]⟩) := hx.cell 6
  have e7 : Z.cell? ⟨w.heap.size, 7, none⟩ = some (.bool false) := hx.cell 7
  clear z0 z1 z2 z3 z4 z5 z6 z7 f0 f1 f2 f3 f4 f5 f6 f7 hx hZ
  refine bodyPost_ret (v := .tuple #[.agg #[.int .i64 0, .int .i64 0, .int .i64 0, .int .i64 0, .int .i64 0, .int .i64 0, .string ⟨#[]⟩, .bool false], .int .i64 E]) ?_ rfl ⟨rfl, hl8⟩
  simp [results, Try.results14, go_sem, e0, e1, e2, e3, e4, e5, e6, e7]


theorem rfget_rest (b : List UInt8) (hb : b.length ≤ 1000000) (hs : opnE (str b) = 0) (w : World) : Calls Try.prog 14 #[.string (str b)] w fun e w' => e = .returned (.tuple #[aggF (fgetT b (opnS (str b)).data.toList).1, .int .i64 (fgetT b (opnS (str b)).data.toList).2]) ∧ Below w.heap.size w w' := by
  have hol := opnS_len b
  have HO : Hid (∀ W : World, Calls Try.prog 42 #[.string (str b)] W fun e w' => e = .returned (.tuple #[.string (opnS (str b)), .int .i64 0]) ∧ Below W.heap.size W w') := Lib.hid fun W => by
    have := refopen_all (str b) W (by rw [str_size]; omega)
    rwa [hs] at this
  obtain ⟨t, ht⟩ : ∃ t, t = (opnS (str b)).data.toList := ⟨_, rfl⟩
  have htl : t.length ≤ 1000000 := by rw [ht]; omega
  have hts : opnS (str b) = str t := by rw [ht, str_of]
  have HPB0 := Lib.hid (fun (h : fputF (frmOf (parF t)) = (b, 0)) => put_none h (opn_back b t hts hs))
  rw [← ht]
  rw [hts] at HO
  clear ht hts hs hol
  have HF := Lib.hid (frmOf_in t)
  have hp : parF t = parF t := rfl
  conv at hp => rhs; unfold parF
  simp only at hp

  obtain ⟨q1, hq1⟩ : ∃ q, q = rnum 2 t 0 := ⟨_, rfl⟩
  rw [← hq1] at hp
  have hl1 : q1.2.1.length ≤ 1000000 := by rw [hq1]; have := rnum_len 2 t 0; omega
  have hv1 : q1.1 < 65536 := by rw [hq1]; exact rnum_two _ _
  obtain ⟨v1, t1, e1⟩ := q1
  simp only at hp hl1
  simp only at hv1
  have HN1 : Hid (∀ p W, RR W p t 0 → Calls Try.prog 43 #[.pointer (some ⟨p, 0, none⟩), .int .i64 2] W (RGot W p (.int .u64 (v1 : Int)) (t1, e1))) := Lib.hid fun p W hW => by
    have := refnum_any p t 0 2 W hW
    rw [← hq1] at this
    exact this
  obtain ⟨q2, hq2⟩ : ∃ q, q = rnum 2 t1 e1 := ⟨_, rfl⟩
  rw [← hq2] at hp
  have hl2 : q2.2.1.length ≤ 1000000 := by rw [hq2]; have := rnum_len 2 t1 e1; omega
  have hv2 : q2.1 < 65536 := by rw [hq2]; exact rnum_two _ _
  obtain ⟨v2, t2, e2⟩ := q2
  simp only at hp hl2
  simp only at hv2
  have HN2 : Hid (∀ p W, RR W p t1 e1 → Calls Try.prog 43 #[.pointer (some ⟨p, 0, none⟩), .int .i64 2] W (RGot W p (.int .u64 (v2 : Int)) (t2, e2))) := Lib.hid fun p W hW => by
    have := refnum_any p t1 e1 2 W hW
    rw [← hq2] at this
    exact this
  obtain ⟨q3, hq3⟩ : ∃ q, q = rnum 8 t2 e2 := ⟨_, rfl⟩
  rw [← hq3] at hp
  have hl3 : q3.2.1.length ≤ 1000000 := by rw [hq3]; have := rnum_len 8 t2 e2; omega
  obtain ⟨v3, t3, e3⟩ := q3
  simp only at hp hl3
  have HN3 : Hid (∀ p W, RR W p t2 e2 → Calls Try.prog 43 #[.pointer (some ⟨p, 0, none⟩), .int .i64 8] W (RGot W p (.int .u64 (v3 : Int)) (t3, e3))) := Lib.hid fun p W hW => by
    have := refnum_any p t2 e2 8 W hW
    rw [← hq3] at this
    exact this
  obtain ⟨q4, hq4⟩ : ∃ q, q = rnum 8 t3 e3 := ⟨_, rfl⟩
  rw [← hq4] at hp
  have hl4 : q4.2.1.length ≤ 1000000 := by rw [hq4]; have := rnum_len 8 t3 e3; omega
  obtain ⟨v4, t4, e4⟩ := q4
  simp only at hp hl4
  have HN4 : Hid (∀ p W, RR W p t3 e3 → Calls Try.prog 43 #[.pointer (some ⟨p, 0, none⟩), .int .i64 8] W (RGot W p (.int .u64 (v4 : Int)) (t4, e4))) := Lib.hid fun p W hW => by
    have := refnum_any p t3 e3 8 W hW
    rw [← hq4] at this
    exact this
  obtain ⟨q5, hq5⟩ : ∃ q, q = rnum 8 t4 e4 := ⟨_, rfl⟩
  rw [← hq5] at hp
  have hl5 : q5.2.1.length ≤ 1000000 := by rw [hq5]; have := rnum_len 8 t4 e4; omega
  obtain ⟨v5, t5, e5⟩ := q5
  simp only at hp hl5
  have HN5 : Hid (∀ p W, RR W p t4 e4 → Calls Try.prog 43 #[.pointer (some ⟨p, 0, none⟩), .int .i64 8] W (RGot W p (.int .u64 (v5 : Int)) (t5, e5))) := Lib.hid fun p W hW => by
    have := refnum_any p t4 e4 8 W hW
    rw [← hq5] at this
    exact this
  obtain ⟨q6, hq6⟩ : ∃ q, q = rnum 8 t5 e5 := ⟨_, rfl⟩
  rw [← hq6] at hp
  have hl6 : q6.2.1.length ≤ 1000000 := by rw [hq6]; have := rnum_len 8 t5 e5; omega
  obtain ⟨v6, t6, e6⟩ := q6
  simp only at hp hl6
  have HN6 : Hid (∀ p W, RR W p t5 e5 → Calls Try.prog 43 #[.pointer (some ⟨p, 0, none⟩), .int .i64 8] W (RGot W p (.int .u64 (v6 : Int)) (t6, e6))) := Lib.hid fun p W hW => by
    have := refnum_any p t5 e5 8 W hW
    rw [← hq6] at this
    exact this
  obtain ⟨q7, hq7⟩ : ∃ q, q = rflag t6 e6 := ⟨_, rfl⟩
  rw [← hq7] at hp
  have hl7 : q7.2.1.length ≤ 1000000 := by rw [hq7, rflag]; have := rnum_len 1 t6 e6; split <;> simp <;> omega
  obtain ⟨fl, t7, e7⟩ := q7
  simp only at hp hl7
  have HN7 : Hid (∀ p W, RR W p t6 e6 → Calls Try.prog 44 #[.pointer (some ⟨p, 0, none⟩)] W (RGot W p (.bool fl) (t7, e7))) := Lib.hid fun p W hW => by
    have := refflag_any p t6 e6 W hW
    rw [← hq7] at this
    exact this
  obtain ⟨q8, hq8⟩ : ∃ q, q = rtext 3000 t7 e7 := ⟨_, rfl⟩
  rw [← hq8] at hp
  have hdl : q8.1.length ≤ 65535 := by rw [hq8]; exact rtext_len _ _ _
  obtain ⟨d, t8, e8⟩ := q8
  simp only at hp
  simp only at hdl
  have HN8 : Hid (∀ p W, RR W p t7 e7 → Calls Try.prog 45 #[.pointer (some ⟨p, 0, none⟩), .int .i64 3000] W (RGot W p (.string (str d)) (t8, e8))) := Lib.hid fun p W hW => by
    have := reftext_any p t7 e7 3000 W hW
    rw [← hq8] at this
    exact this
  rw [hp] at HF
  have HPB : Hid (fputF ⟨(v1 : Int), (v2 : Int), wrap64 v3, wrap64 v4, wrap64 v5, wrap64 v6, d, fl⟩ = (b, 0) → t8 = []) := Lib.hid fun h => by
    have h2 := HPB0.out
    rw [hp] at h2
    exact h2 h
  clear HPB0
  have hF : fgetT b t = if e8 ≠ 0 then (zFrm, e8) else if fputF ⟨(v1 : Int), (v2 : Int), wrap64 v3, wrap64 v4, wrap64 v5, wrap64 v6, d, fl⟩ = (b, 0) then (⟨(v1 : Int), (v2 : Int), wrap64 v3, wrap64 v4, wrap64 v5, wrap64 v6, d, fl⟩, 0) else (zFrm, 4) := by
    unfold fgetT
    rw [hp]
    rfl
  have HPUT : Hid (∀ W : World, _) := Lib.hid (rfput_any ⟨(v1 : Int), (v2 : Int), wrap64 v3, wrap64 v4, wrap64 v5, wrap64 v6, d, fl⟩ HF.out)
  have hu1 : IntKind.i64.wrap (v1 : Int) = (v1 : Int) := by rw [IntKind.wrap_i64]; omega
  have hu2 : IntKind.i64.wrap (v2 : Int) = (v2 : Int) := by rw [IntKind.wrap_i64]; omega

  rw [hF]
  obtain ⟨⟨ps, pe⟩, hP⟩ : ∃ P, P = fputF ⟨(v1 : Int), (v2 : Int), wrap64 v3, wrap64 v4, wrap64 v5, wrap64 v6, d, fl⟩ := ⟨_, rfl⟩
  rw [← hP] at HPUT HPB ⊢
  simp only at HPUT
  obtain ⟨G, hG⟩ : ∃ G, G = (if e8 ≠ 0 then (zFrm, e8) else if (ps, pe) = (b, 0) then (⟨(v1 : Int), (v2 : Int), wrap64 v3, wrap64 v4, wrap64 v5, wrap64 v6, d, fl⟩, 0) else (zFrm, 4) : Frm × Int) := ⟨_, rfl⟩
  rw [← hG]
  have HG := Lib.hid hG
  unfold aggF at HPUT
  simp only at HPUT
  obtain ⟨D, hD⟩ : ∃ D, D = str d := ⟨_, rfl⟩
  rw [← hD] at HPUT HN8
  obtain ⟨Y, hY⟩ : ∃ Y, Y = str b := ⟨_, rfl⟩
  rw [← hY] at HO
  rw [← hY]
  have HY := Lib.hid hY
  have HD := Lib.hid hD
  clear hY hD hG hP hF HF hdl hl1 hl2 hl3 hl4 hl5 hl6 hl7 hv1 hv2 hq1 hq2 hq3 hq4 hq5 hq6 hq7 hq8 hp
  go_enter Try.func14, Try.ntmps14
  go_wp2_with fail
  have hb0 := (Below.refl w.heap.size w).alloc (Nat.le_refl _) (.cells #[.int .i64 0, .int .i64 0, .int .i64 0, .int .i64 0, .int .i64 0, .int .i64 0, .string ⟨#[]⟩, .bool false] 29)
  refine (HO.out _).mono ?_
  rintro e w1 ⟨rfl, hb1⟩
  have HS1 := Lib.hid ((Sits.fresh w 29 #[.int .i64 0, .int .i64 0, .int .i64 0, .int .i64 0, .int .i64 0, .int .i64 0, .string ⟨#[]⟩, .bool false]).below' hb1)
  have HB1 := Lib.hid (hb0.trans (hb1.mono hb0.size))
  clear hb1 hb0
  go_wp2_with fail
  have hpl : w.heap.size < w1.heap.size := HS1.out.lt
  obtain ⟨q, hq⟩ : ∃ q, q = w1.heap.size := ⟨_, rfl⟩
  obtain ⟨w2, hw2⟩ : ∃ x, x = w1.alloc (.cells #[.string (str t), .int .i64 0] 85) := ⟨_, rfl⟩
  have hR2 : RR w2 q t 0 := ⟨t, by rw [hw2, hq]; exact Sits.fresh w1 _ _, fun _ => rfl, by omega⟩
  have hb2 : Below w1.heap.size w1 w2 := hw2 ▸ (Below.refl _ _).alloc (Nat.le_refl _) _
  obtain ⟨gf, hz2⟩ : ∃ gf, w2.heap.size = gf := ⟨_, rfl⟩
  have hgq : q + 1 = gf := by rw [← hz2, hw2, World.size_alloc, hq]
  have hqg : q < gf := by omega
  obtain ⟨w3, hw3⟩ : ∃ x, x = w2.alloc (.cells #[.int .i64 0, .int .i64 0, .int .i64 0, .int .i64 0, .int .i64 0, .int .i64 0, .string ⟨#[]⟩, .bool false] 29) := ⟨_, rfl⟩
  have HT3 : Hid (Sits w3 gf 29 #[.int .i64 0, .int .i64 0, .int .i64 0, .int .i64 0, .int .i64 0, .int .i64 0, .string ⟨#[]⟩, .bool false]) := Lib.hid (by rw [hw3, ← hz2]; exact Sits.fresh w2 _ _)
  have hb3 : Below w2.heap.size w2 w3 := hw3 ▸ (Below.refl _ _).alloc (Nat.le_refl _) _
  have hb23 : Below w1.heap.size w1 w3 := hb2.trans (hb3.mono hb2.size)
  have HS3 := Lib.hid (HS1.out.below' hb23)
  have HB3 := Lib.hid (HB1.out.trans (hb23.mono HB1.out.size))
  have HR3 := Lib.hid (hR2.below hb3)
  rw [← hq] at hpl
  rw [← hw2, ← hq]
  clear hb2 hb3 hb23 hR2 HS1 HB1
  go_wp2_with fail
  rw [← hw3, hgq]
  have HZ2 := Lib.hid hz2
  have HWW := Lib.hid (And.intro hw2 (And.intro hw3 hq))
  clear hw2 hw3 hz2 hq hgq
  refine (HN1.out _ _ HR3.out).mono ?_
  rintro e u4 ⟨rfl, hr, ho⟩
  have hT := HT3.out.only ho (by omega)
  have hfz := hT.warm 0
  have hco : u4.cell? ⟨gf, 0, none⟩ = some (.int .i64 0) := hT.cell 0
  have hlt : gf < u4.heap.size := hT.lt
  obtain ⟨w4, hw4⟩ : ∃ x, x = u4.setCell ⟨gf, 0, none⟩ (.int .i64 (v1 : Int)) := ⟨_, rfl⟩
  have HT4 : Hid (Sits w4 gf 29 #[.int .i64 (v1 : Int), .int .i64 0, .int .i64 0, .int .i64 0, .int .i64 0, .int .i64 0, .string ⟨#[]⟩, .bool false]) := Lib.hid (by rw [hw4]; exact hT.put 0 (.int .i64 (v1 : Int)))
  have HS4 : Hid (Sits w4 w.heap.size 29 #[.int .i64 0, .int .i64 0, .int .i64 0, .int .i64 0, .int .i64 0, .int .i64 0, .string ⟨#[]⟩, .bool false]) := Lib.hid (by rw [hw4]; exact (HS3.out.only ho (by omega)).away (p := ⟨gf, 0, none⟩) (show w.heap.size ≠ gf by omega) _)
  have HB4 : Hid (Below w.heap.size w w4) := Lib.hid (by rw [hw4]; exact (Below.then_only HB3.out ho (by omega) HB3.out.size).setCell (show w.heap.size ≤ gf by omega) _)
  have HR4 : Hid (RR w4 q t1 e1) := Lib.hid (by rw [hw4]; exact rr_away hr (show q ≠ gf by omega) 0 _)
  clear hr ho hT HS3 HB3 HR3 HT3
  go_wp2_with fail
  rw [← hw4]
  clear hw4 hfz hco hlt
  refine (HN2.out _ _ HR4.out).mono ?_
  rintro e u5 ⟨rfl, hr, ho⟩
  have hT := HT4.out.only ho (by omega)
  have hfz := hT.warm 1
  have hco : u5.cell? ⟨gf, 1, none⟩ = some (.int .i64 0) := hT.cell 1
  have hlt : gf < u5.heap.size := hT.lt
  obtain ⟨w5, hw5⟩ : ∃ x, x = u5.setCell ⟨gf, 1, none⟩ (.int .i64 (v2 : Int)) := ⟨_, rfl⟩
  have HT5 : Hid (Sits w5 gf 29 #[.int .i64 (v1 : Int), .int .i64 (v2 : Int), .int .i64 0, .int .i64 0, .int .i64 0, .int .i64 0, .string ⟨#[]⟩, .bool false]) := Lib.hid (by rw [hw5]; exact hT.put 1 (.int .i64 (v2 : Int)))
  have HS5 : Hid (Sits w5 w.heap.size 29 #[.int .i64 0, .int .i64 0, .int .i64 0, .int .i64 0, .int .i64 0, .int .i64 0, .string ⟨#[]⟩, .bool false]) := Lib.hid (by rw [hw5]; exact (HS4.out.only ho (by omega)).away (p := ⟨gf, 1, none⟩) (show w.heap.size ≠ gf by omega) _)
  have HB5 : Hid (Below w.heap.size w w5) := Lib.hid (by rw [hw5]; exact (Below.then_only HB4.out ho (by omega) HB4.out.size).setCell (show w.heap.size ≤ gf by omega) _)
  have HR5 : Hid (RR w5 q t2 e2) := Lib.hid (by rw [hw5]; exact rr_away hr (show q ≠ gf by omega) 1 _)
  clear hr ho hT HS4 HB4 HR4 HT4
  go_wp2_with fail
  rw [← hw5]
  clear hw5 hfz hco hlt
  refine (HN3.out _ _ HR5.out).mono ?_
  rintro e u6 ⟨rfl, hr, ho⟩
  have hT := HT5.out.only ho (by omega)
  have hfz := hT.warm 2
  have hco : u6.cell? ⟨gf, 2, none⟩ = some (.int .i64 0) := hT.cell 2
  have hlt : gf < u6.heap.size := hT.lt
  obtain ⟨w6, hw6⟩ : ∃ x, x = u6.setCell ⟨gf, 2, none⟩ (.int .i64 (wrap64 v3)) := ⟨_, rfl⟩
  have HT6 : Hid (Sits w6 gf 29 #[.int .i64 (v1 : Int), .int .i64 (v2 : Int), .int .i64 (wrap64 v3), .int .i64 0, .int .i64 0, .int .i64 0, .string ⟨#[]⟩, .bool false]) := Lib.hid (by rw [hw6]; exact hT.put 2 (.int .i64 (wrap64 v3)))
  have HS6 : Hid (Sits w6 w.heap.size 29 #[.int .i64 0, .int .i64 0, .int .i64 0, .int .i64 0, .int .i64 0, .int .i64 0, .string ⟨#[]⟩, .bool false]) := Lib.hid (by rw [hw6]; exact (HS5.out.only ho (by omega)).away (p := ⟨gf, 2, none⟩) (show w.heap.size ≠ gf by omega) _)
  have HB6 : Hid (Below w.heap.size w w6) := Lib.hid (by rw [hw6]; exact (Below.then_only HB5.out ho (by omega) HB5.out.size).setCell (show w.heap.size ≤ gf by omega) _)
  have HR6 : Hid (RR w6 q t3 e3) := Lib.hid (by rw [hw6]; exact rr_away hr (show q ≠ gf by omega) 2 _)
  clear hr ho hT HS5 HB5 HR5 HT5
  go_wp2_with fail
  rw [← hw6]
  clear hw6 hfz hco hlt
  refine (HN4.out _ _ HR6.out).mono ?_
  rintro e u7 ⟨rfl, hr, ho⟩
  have hT := HT6.out.only ho (by omega)
  have hfz := hT.warm 3
  have hco : u7.cell? ⟨gf, 3, none⟩ = some (.int .i64 0) := hT.cell 3
  have hlt : gf < u7.heap.size := hT.lt
  obtain ⟨w7, hw7⟩ : ∃ x, x = u7.setCell ⟨gf, 3, none⟩ (.int .i64 (wrap64 v4)) := ⟨_, rfl⟩
  have HT7 : Hid (Sits w7 gf 29 #[.int .i64 (v1 : Int), .int .i64 (v2 : Int), .int .i64 (wrap64 v3), .int .i64 (wrap64 v4), .int .i64 0, .int .i64 0, .string ⟨#[]⟩, .bool false]) := Lib.hid (by rw [hw7]; exact hT.put 3 (.int .i64 (wrap64 v4)))
  have HS7 : Hid (Sits w7 w.heap.size 29 #[.int .i64 0, .int .i64 0, .int .i64 0, .int .i64 0, .int .i64 0, .int .i64 0, .string ⟨#[]⟩, .bool false]) := Lib.hid (by rw [hw7]; exact (HS6.out.only ho (by omega)).away (p := ⟨gf, 3, none⟩) (show w.heap.size ≠ gf by omega) _)
  have HB7 : Hid (Below w.heap.size w w7) := Lib.hid (by rw [hw7]; exact (Below.then_only HB6.out ho (by omega) HB6.out.size).setCell (show w.heap.size ≤ gf by omega) _)
  have HR7 : Hid (RR w7 q t4 e4) := Lib.hid (by rw [hw7]; exact rr_away hr (show q ≠ gf by omega) 3 _)
  clear hr ho hT HS6 HB6 HR6 HT6
  go_wp2_with fail
  rw [← hw7]
  clear hw7 hfz hco hlt
  refine (HN5.out _ _ HR7.out).mono ?_
  rintro e u8 ⟨rfl, hr, ho⟩
  have hT := HT7.out.only ho (by omega)
  have hfz := hT.warm 4
  have hco : u8.cell? ⟨gf, 4, none⟩ = some (.int .i64 0) := hT.cell 4
  have hlt : gf < u8.heap.size := hT.lt
  obtain ⟨w8, hw8⟩ : ∃ x, x = u8.setCell ⟨gf, 4, none⟩ (.int .i64 (wrap64 v5)) := ⟨_, rfl⟩
  have HT8 : Hid (Sits w8 gf 29 #[.int .i64 (v1 : Int), .int .i64 (v2 : Int), .int .i64 (wrap64 v3), .int .i64 (wrap64 v4), .int .i64 (wrap64 v5), .int .i64 0, .string ⟨#[]⟩, .bool false]) := Lib.hid (by rw [hw8]; exact hT.put 4 (.int .i64 (wrap64 v5)))
  have HS8 : Hid (Sits w8 w.heap.size 29 #[.int .i64 0, .int .i64 0, .int .i64 0, .int .i64 0, .int .i64 0, .int .i64 0, .string ⟨#[]⟩, .bool false]) := Lib.hid (by rw [hw8]; exact (HS7.out.only ho (by omega)).away (p := ⟨gf, 4, none⟩) (show w.heap.size ≠ gf by omega) _)
  have HB8 : Hid (Below w.heap.size w w8) := Lib.hid (by rw [hw8]; exact (Below.then_only HB7.out ho (by omega) HB7.out.size).setCell (show w.heap.size ≤ gf by omega) _)
  have HR8 : Hid (RR w8 q t5 e5) := Lib.hid (by rw [hw8]; exact rr_away hr (show q ≠ gf by omega) 4 _)
  clear hr ho hT HS7 HB7 HR7 HT7
  go_wp2_with fail
  rw [← hw8]
  clear hw8 hfz hco hlt
  refine (HN6.out _ _ HR8.out).mono ?_
  rintro e u9 ⟨rfl, hr, ho⟩
  have hT := HT8.out.only ho (by omega)
  have hfz := hT.warm 5
  have hco : u9.cell? ⟨gf, 5, none⟩ = some (.int .i64 0) := hT.cell 5
  have hlt : gf < u9.heap.size := hT.lt
  obtain ⟨w9, hw9⟩ : ∃ x, x = u9.setCell ⟨gf, 5, none⟩ (.int .i64 (wrap64 v6)) := ⟨_, rfl⟩
  have HT9 : Hid (Sits w9 gf 29 #[.int .i64 (v1 : Int), .int .i64 (v2 : Int), .int .i64 (wrap64 v3), .int .i64 (wrap64 v4), .int .i64 (wrap64 v5), .int .i64 (wrap64 v6), .string ⟨#[]⟩, .bool false]) := Lib.hid (by rw [hw9]; exact hT.put 5 (.int .i64 (wrap64 v6)))
  have HS9 : Hid (Sits w9 w.heap.size 29 #[.int .i64 0, .int .i64 0, .int .i64 0, .int .i64 0, .int .i64 0, .int .i64 0, .string ⟨#[]⟩, .bool false]) := Lib.hid (by rw [hw9]; exact (HS8.out.only ho (by omega)).away (p := ⟨gf, 5, none⟩) (show w.heap.size ≠ gf by omega) _)
  have HB9 : Hid (Below w.heap.size w w9) := Lib.hid (by rw [hw9]; exact (Below.then_only HB8.out ho (by omega) HB8.out.size).setCell (show w.heap.size ≤ gf by omega) _)
  have HR9 : Hid (RR w9 q t6 e6) := Lib.hid (by rw [hw9]; exact rr_away hr (show q ≠ gf by omega) 5 _)
  clear hr ho hT HS8 HB8 HR8 HT8
  go_wp2_with fail
  rw [← hw9]
  clear hw9 hfz hco hlt
  refine (HN7.out _ _ HR9.out).mono ?_
  rintro e u10 ⟨rfl, hr, ho⟩
  have hT := HT9.out.only ho (by omega)
  have hfz := hT.warm 7
  have hco : u10.cell? ⟨gf, 7, none⟩ = some (.bool false) := hT.cell 7
  have hlt : gf < u10.heap.size := hT.lt
  obtain ⟨w10, hw10⟩ : ∃ x, x = u10.setCell ⟨gf, 7, none⟩ (.bool fl) := ⟨_, rfl⟩
  have HT10 : Hid (Sits w10 gf 29 #[.int .i64 (v1 : Int), .int .i64 (v2 : Int), .int .i64 (wrap64 v3), .int .i64 (wrap64 v4), .int .i64 (wrap64 v5), .int .i64 (wrap64 v6), .string ⟨#[]⟩, .bool fl]) := Lib.hid (by rw [hw10]; exact hT.put 7 (.bool fl))
  have HS10 : Hid (Sits w10 w.heap.size 29 #[.int .i64 0, .int .i64 0, .int .i64 0, .int .i64 0, .int .i64 0, .int .i64 0, .string ⟨#[]⟩, .bool false]) := Lib.hid (by rw [hw10]; exact (HS9.out.only ho (by omega)).away (p := ⟨gf, 7, none⟩) (show w.heap.size ≠ gf by omega) _)
  have HB10 : Hid (Below w.heap.size w w10) := Lib.hid (by rw [hw10]; exact (Below.then_only HB9.out ho (by omega) HB9.out.size).setCell (show w.heap.size ≤ gf by omega) _)
  have HR10 : Hid (RR w10 q t7 e7) := Lib.hid (by rw [hw10]; exact rr_away hr (show q ≠ gf by omega) 7 _)
  clear hr ho hT HS9 HB9 HR9 HT9
  go_wp2_with fail
  rw [← hw10]
  clear hw10 hfz hco hlt
  refine (HN8.out _ _ HR10.out).mono ?_
  rintro e u11 ⟨rfl, hr, ho⟩
  have hT := HT10.out.only ho (by omega)
  have hfz := hT.warm 6
  have hco : u11.cell? ⟨gf, 6, none⟩ = some (.string ⟨#[]⟩) := hT.cell 6
  have hlt : gf < u11.heap.size := hT.lt
  obtain ⟨w11, hw11⟩ : ∃ x, x = u11.setCell ⟨gf, 6, none⟩ (.string D) := ⟨_, rfl⟩
  have HT11 : Hid (Sits w11 gf 29 #[.int .i64 (v1 : Int), .int .i64 (v2 : Int), .int .i64 (wrap64 v3), .int .i64 (wrap64 v4), .int .i64 (wrap64 v5), .int .i64 (wrap64 v6), .string D, .bool fl]) := Lib.hid (by rw [hw11]; exact hT.put 6 (.string D))
  have HS11 : Hid (Sits w11 w.heap.size 29 #[.int .i64 0, .int .i64 0, .int .i64 0, .int .i64 0, .int .i64 0, .int .i64 0, .string ⟨#[]⟩, .bool false]) := Lib.hid (by rw [hw11]; exact (HS10.out.only ho (by omega)).away (p := ⟨gf, 6, none⟩) (show w.heap.size ≠ gf by omega) _)
  have HB11 : Hid (Below w.heap.size w w11) := Lib.hid (by rw [hw11]; exact (Below.then_only HB10.out ho (by omega) HB10.out.size).setCell (show w.heap.size ≤ gf by omega) _)
  have HR11 : Hid (RR w11 q t8 e8) := Lib.hid (by rw [hw11]; exact rr_away hr (show q ≠ gf by omega) 6 _)
  clear hr ho hT HS10 HB10 HR10 HT10
  go_wp2_with fail
  rw [← hw11]
  clear hw11 hfz hco hlt
  refine (refend_any _ _ _ _ HR11.out).mono ?_
  rintro e wg ⟨rfl, rfl⟩
  obtain ⟨E, hE⟩ : ∃ E, E = rend t8 e8 := ⟨_, rfl⟩
  rw [← hE]
  have z0 : w11.cell? ⟨w.heap.size, 0, none⟩ = some (.int .i64 0) := HS11.out.cell 0
  have z1 : w11.cell? ⟨w.heap.size, 1, none⟩ = some (.int .i64 0) := HS11.out.cell 1
  have z2 : w11.cell? ⟨w.heap.size, 2, none⟩ = some (.int .i64 0) := HS11.out.cell 2
  have z3 : w11.cell? ⟨w.heap.size, 3, none⟩ = some (.int .i64 0) := HS11.out.cell 3
  have z4 : w11.cell? ⟨w.heap.size, 4, none⟩ = some (.int .i64 0) := HS11.out.cell 4
  have z5 : w11.cell? ⟨w.heap.size, 5, none⟩ = some (.int .i64 0) := HS11.out.cell 5
  have z6 : w11.cell? ⟨w.heap.size, 6, none⟩ = some (.string ⟨#[]⟩) := HS11.out.cell 6
  have z7 : w11.cell? ⟨w.heap.size, 7, none⟩ = some (.bool false) := HS11.out.cell 7
  have f0 := HS11.out.warm 0
  have f1 := HS11.out.warm 1
  have f2 := HS11.out.warm 2
  have f3 := HS11.out.warm 3
  have f4 := HS11.out.warm 4
  have f5 := HS11.out.warm 5
  have f6 := HS11.out.warm 6
  have f7 := HS11.out.warm 7
  have hlt := HS11.out.lt
  by_cases h8 : E ≠ 0
  · have d8 : (E != 0) = true := bne_iff_ne.2 h8
    have hGz : G = (zFrm, E) := by
      unfold rend at hE
      by_cases h7 : e8 ≠ 0
      · rw [HG.out, if_pos h7, hE, if_neg h7]
      · rw [HG.out, if_neg h7]
        rw [if_pos (Decidable.not_not.1 h7)] at hE
        by_cases h6 : zeros t8 = true
        · rw [if_pos h6] at hE
          exact absurd hE h8
        · rw [if_neg h6] at hE
          rw [hE, if_neg (fun h => h6 (by rw [HPB.out h]; rfl))]
    subst hGz
    clear h8 hE
    go_wp2
    obtain ⟨Z, hZ⟩ : ∃ Z, Z = (((((((w11.setCell ⟨w.heap.size, 0, none⟩ (.int .i64 0)).setCell ⟨w.heap.size, 1, none⟩ (.int .i64 0)).setCell ⟨w.heap.size, 2, none⟩ (.int .i64 0)).setCell ⟨w.heap.size, 3, none⟩ (.int .i64 0)).setCell ⟨w.heap.size, 4, none⟩ (.int .i64 0)).setCell ⟨w.heap.size, 5, none⟩ (.int .i64 0)).setCell ⟨w.heap.size, 6, none⟩ (.string ⟨#[]⟩)).setCell ⟨w.heap.size, 7, none⟩ (.bool false) := ⟨_, rfl⟩
    have hx : Sits Z w.heap.size 29 #[.int .i64 0, .int .i64 0, .int .i64 0, .int .i64 0, .int .i64 0, .int .i64 0, .string ⟨#[]⟩, .bool false] := hZ ▸ ((((((((HS11.out.put 0 (.int .i64 0)).put 1 (.int .i64 0)).put 2 (.int .i64 0)).put 3 (.int .i64 0)).put 4 (.int .i64 0)).put 5 (.int .i64 0)).put 6 (.string ⟨#[]⟩)).put 7 (.bool false))
    have hl8 : Below w.heap.size w Z := hZ ▸ ((((((((HB11.out.setCell (Nat.le_refl _) _).setCell (Nat.le_refl _) _).setCell (Nat.le_refl _) _).setCell (Nat.le_refl _) _).setCell (Nat.le_refl _) _).setCell (Nat.le_refl _) _).setCell (Nat.le_refl _) _).setCell (Nat.le_refl _) _)
    rw [← hZ]
    have e0 : Z.cell? ⟨w.heap.size, 0, none⟩ = some (.int .i64 0) := hx.cell 0
    have e1 : Z.cell? ⟨w.heap.size, 1, none⟩ = some (.int .i64 0) := hx.cell 1
    have e2 : Z.cell? ⟨w.heap.size, 2, none⟩ = some (.int .i64 0) := hx.cell 2
    have e3 : Z.cell? ⟨w.heap.size, 3, none⟩ = some (.int .i64 0) := hx.cell 3
    have e4 : Z.cell? ⟨w.heap.size, 4, none⟩ = some (.int .i64 0) := hx.cell 4
    have e5 : Z.cell? ⟨w.heap.size, 5, none⟩ = some (.int .i64 0) := hx.cell 5
    have e6 : Z.cell? ⟨w.heap.size, 6, none⟩ = some (.string ⟨#[]⟩) := hx.cell 6
    have e7 : Z.cell? ⟨w.heap.size, 7, none⟩ = some (.bool false) := hx.cell 7
    clear z0 z1 z2 z3 z4 z5 z6 z7 f0 f1 f2 f3 f4 f5 f6 f7 hx hZ
    refine bodyPost_ret (v := .tuple #[.agg #[.int .i64 0, .int .i64 0, .int .i64 0, .int .i64 0, .int .i64 0, .int .i64 0, .string ⟨#[]⟩, .bool false], .int .i64 E]) ?_ rfl ⟨rfl, hl8⟩
    simp [results, Try.results14, go_sem, e0, e1, e2, e3, e4, e5, e6, e7]
  have h8' : E = 0 := Decidable.not_not.1 h8
  rw [h8'] at hE
  rw [h8']
  have he8 : e8 = 0 := by
    unfold rend at hE
    by_cases h7 : e8 = 0
    · exact h7
    · rw [if_neg h7] at hE
      exact absurd hE.symm h7
  subst he8
  clear h8 h8' hE
  have g0 : w11.cell? ⟨gf, 0, none⟩ = some (.int .i64 (v1 : Int)) := HT11.out.cell 0
  have g1 : w11.cell? ⟨gf, 1, none⟩ = some (.int .i64 (v2 : Int)) := HT11.out.cell 1
  have g2 : w11.cell? ⟨gf, 2, none⟩ = some (.int .i64 (wrap64 v3)) := HT11.out.cell 2
  have g3 : w11.cell? ⟨gf, 3, none⟩ = some (.int .i64 (wrap64 v4)) := HT11.out.cell 3
  have g4 : w11.cell? ⟨gf, 4, none⟩ = some (.int .i64 (wrap64 v5)) := HT11.out.cell 4
  have g5 : w11.cell? ⟨gf, 5, none⟩ = some (.int .i64 (wrap64 v6)) := HT11.out.cell 5
  have g6 : w11.cell? ⟨gf, 6, none⟩ = some (.string D) := HT11.out.cell 6
  have g7 : w11.cell? ⟨gf, 7, none⟩ = some (.bool fl) := HT11.out.cell 7
  go_wp2_with fail
  clear g0 g1 g2 g3 g4 g5 g6 g7 z0 z1 z2 z3 z4 z5 z6 z7 f0 f1 f2 f3 f4 f5 f6 f7 hlt
  refine (HPUT.out _).mono ?_
  rintro e wp ⟨rfl, hbp⟩
  have HSp := Lib.hid (HS11.out.below' hbp)
  have HTp := Lib.hid (HT11.out.below' hbp)
  have HBp := Lib.hid (HB11.out.trans (hbp.mono HB11.out.size))
  clear hbp HS11 HB11 HT11 HR11
  have z0 : wp.cell? ⟨w.heap.size, 0, none⟩ = some (.int .i64 0) := HSp.out.cell 0
  have z1 : wp.cell? ⟨w.heap.size, 1, none⟩ = some (.int .i64 0) := HSp.out.cell 1
  have z2 : wp.cell? ⟨w.heap.size, 2, none⟩ = some (.int .i64 0) := HSp.out.cell 2
  have z3 : wp.cell? ⟨w.heap.size, 3, none⟩ = some (.int .i64 0) := HSp.out.cell 3
  have z4 : wp.cell? ⟨w.heap.size, 4, none⟩ = some (.int .i64 0) := HSp.out.cell 4
  have z5 : wp.cell? ⟨w.heap.size, 5, none⟩ = some (.int .i64 0) := HSp.out.cell 5
  have z6 : wp.cell? ⟨w.heap.size, 6, none⟩ = some (.string ⟨#[]⟩) := HSp.out.cell 6
  have z7 : wp.cell? ⟨w.heap.size, 7, none⟩ = some (.bool false) := HSp.out.cell 7
  have f0 := HSp.out.warm 0
  have f1 := HSp.out.warm 1
  have f2 := HSp.out.warm 2
  have f3 := HSp.out.warm 3
  have f4 := HSp.out.warm 4
  have f5 := HSp.out.warm 5
  have f6 := HSp.out.warm 6
  have f7 := HSp.out.warm 7
  have hlt := HSp.out.lt
  by_cases h9 : pe = 0
  rotate_left
  · have d9 : (pe != 0) = true := bne_iff_ne.2 h9
    have hGz : G = (zFrm, 4) := by rw [HG.out, if_neg (by simp), if_neg (fun h => h9 (congrArg Prod.snd h))]
    subst hGz
    go_wp2
    obtain ⟨Z, hZ⟩ : ∃ Z, Z = (((((((wp.setCell ⟨w.heap.size, 0, none⟩ (.int .i64 0)).setCell ⟨w.heap.size, 1, none⟩ (.int .i64 0)).setCell ⟨w.heap.size, 2, none⟩ (.int .i64 0)).setCell ⟨w.heap.size, 3, none⟩ (.int .i64 0)).setCell ⟨w.heap.size, 4, none⟩ (.int .i64 0)).setCell ⟨w.heap.size, 5, none⟩ (.int .i64 0)).setCell ⟨w.heap.size, 6, none⟩ (.string ⟨#[]⟩)).setCell ⟨w.heap.size, 7, none⟩ (.bool false) := ⟨_, rfl⟩
    have hx : Sits Z w.heap.size 29 #[.int .i64 0, .int .i64 0, .int .i64 0, .int .i64 0, .int .i64 0, .int .i64 0, .string ⟨#[]⟩, .bool false] := hZ ▸ ((((((((HSp.out.put 0 (.int .i64 0)).put 1 (.int .i64 0)).put 2 (.int .i64 0)).put 3 (.int .i64 0)).put 4 (.int .i64 0)).put 5 (.int .i64 0)).put 6 (.string ⟨#[]⟩)).put 7 (.bool false))
    have hl8 : Below w.heap.size w Z := hZ ▸ ((((((((HBp.out.setCell (Nat.le_refl _) _).setCell (Nat.le_refl _) _).setCell (Nat.le_refl _) _).setCell (Nat.le_refl _) _).setCell (Nat.le_refl _) _).setCell (Nat.le_refl _) _).setCell (Nat.le_refl _) _).setCell (Nat.le_refl _) _)
    rw [← hZ]
    have e0 : Z.cell? ⟨w.heap.size, 0, none⟩ = some (.int .i64 0) := hx.cell 0
    have e1 : Z.cell? ⟨w.heap.size, 1, none⟩ = some (.int .i64 0) := hx.cell 1
    have e2 : Z.cell? ⟨w.heap.size, 2, none⟩ = some (.int .i64 0) := hx.cell 2
    have e3 : Z.cell? ⟨w.heap.size, 3, none⟩ = some (.int .i64 0) := hx.cell 3
    have e4 : Z.cell? ⟨w.heap.size, 4, none⟩ = some (.int .i64 0) := hx.cell 4
    have e5 : Z.cell? ⟨w.heap.size, 5, none⟩ = some (.int .i64 0) := hx.cell 5
    have e6 : Z.cell? ⟨w.heap.size, 6, none⟩ = some (.string ⟨#[]⟩) := hx.cell 6
    have e7 : Z.cell? ⟨w.heap.size, 7, none⟩ = some (.bool false) := hx.cell 7
    clear z0 z1 z2 z3 z4 z5 z6 z7 f0 f1 f2 f3 f4 f5 f6 f7 hx hZ
    refine bodyPost_ret (v := .tuple #[.agg #[.int .i64 0, .int .i64 0, .int .i64 0, .int .i64 0, .int .i64 0, .int .i64 0, .string ⟨#[]⟩, .bool false], .int .i64 4]) ?_ rfl ⟨rfl, hl8⟩
    simp [results, Try.results14, go_sem, e0, e1, e2, e3, e4, e5, e6, e7]
  subst h9
  by_cases h10 : ps = b
  rotate_left
  · have hne := ne_no (a := str ps) (b := Y) (fun e => h10 (str_inj (e.trans HY.out)))
    generalize str ps = z at hne
    have hGz : G = (zFrm, 4) := by rw [HG.out, if_neg (by simp), if_neg (fun h => h10 (congrArg Prod.fst h))]
    subst hGz
    go_wp2
    obtain ⟨Z, hZ⟩ : ∃ Z, Z = (((((((wp.setCell ⟨w.heap.size, 0, none⟩ (.int .i64 0)).setCell ⟨w.heap.size, 1, none⟩ (.int .i64 0)).setCell ⟨w.heap.size, 2, none⟩ (.int .i64 0)).setCell ⟨w.heap.size, 3, none⟩ (.int .i64 0)).setCell ⟨w.heap.size, 4, none⟩ (.int .i64 0)).setCell ⟨w.heap.size, 5, none⟩ (.int .i64 0)).setCell ⟨w.heap.size, 6, none⟩ (.string ⟨#[]⟩)).setCell ⟨w.heap.size, 7, none⟩ (.bool false) := ⟨_, rfl⟩
    have hx : Sits Z w.heap.size 29 #[.int .i64 0, .int .i64 0, .int .i64 0, .int .i64 0, .int .i64 0, .int .i64 0, .string ⟨#[]⟩, .bool false] := hZ ▸ ((((((((HSp.out.put 0 (.int .i64 0)).put 1 (.int .i64 0)).put 2 (.int .i64 0)).put 3 (.int .i64 0)).put 4 (.int .i64 0)).put 5 (.int .i64 0)).put 6 (.string ⟨#[]⟩)).put 7 (.bool false))
    have hl8 : Below w.heap.size w Z := hZ ▸ ((((((((HBp.out.setCell (Nat.le_refl _) _).setCell (Nat.le_refl _) _).setCell (Nat.le_refl _) _).setCell (Nat.le_refl _) _).setCell (Nat.le_refl _) _).setCell (Nat.le_refl _) _).setCell (Nat.le_refl _) _).setCell (Nat.le_refl _) _)
    rw [← hZ]
    have e0 : Z.cell? ⟨w.heap.size, 0, none⟩ = some (.int .i64 0) := hx.cell 0
    have e1 : Z.cell? ⟨w.heap.size, 1, none⟩ = some (.int .i64 0) := hx.cell 1
    have e2 : Z.cell? ⟨w.heap.size, 2, none⟩ = some (.int .i64 0) := hx.cell 2
    have e3 : Z.cell? ⟨w.heap.size, 3, none⟩ = some (.int .i64 0) := hx.cell 3
    have e4 : Z.cell? ⟨w.heap.size, 4, none⟩ = some (.int .i64 0) := hx.cell 4
    have e5 : Z.cell? ⟨w.heap.size, 5, none⟩ = some (.int .i64 0) := hx.cell 5
    have e6 : Z.cell? ⟨w.heap.size, 6, none⟩ = some (.string ⟨#[]⟩) := hx.cell 6
    have e7 : Z.cell? ⟨w.heap.size, 7, none⟩ = some (.bool false) := hx.cell 7
    clear z0 z1 z2 z3 z4 z5 z6 z7 f0 f1 f2 f3 f4 f5 f6 f7 hx hZ
    refine bodyPost_ret (v := .tuple #[.agg #[.int .i64 0, .int .i64 0, .int .i64 0, .int .i64 0, .int .i64 0, .int .i64 0, .string ⟨#[]⟩, .bool false], .int .i64 4]) ?_ rfl ⟨rfl, hl8⟩
    simp [results, Try.results14, go_sem, e0, e1, e2, e3, e4, e5, e6, e7]
  have hGz : G = (⟨(v1 : Int), (v2 : Int), wrap64 v3, wrap64 v4, wrap64 v5, wrap64 v6, d, fl⟩, 0) := by rw [HG.out, if_neg (by simp), if_pos (by rw [h10])]
  subst hGz
  have hne := ne_yes (a := str ps) (b := Y) (by rw [h10]; exact HY.out.symm)
  generalize str ps = z at hne
  have g0 : wp.cell? ⟨gf, 0, none⟩ = some (.int .i64 (v1 : Int)) := HTp.out.cell 0
  have g1 : wp.cell? ⟨gf, 1, none⟩ = some (.int .i64 (v2 : Int)) := HTp.out.cell 1
  have g2 : wp.cell? ⟨gf, 2, none⟩ = some (.int .i64 (wrap64 v3)) := HTp.out.cell 2
  have g3 : wp.cell? ⟨gf, 3, none⟩ = some (.int .i64 (wrap64 v4)) := HTp.out.cell 3
  have g4 : wp.cell? ⟨gf, 4, none⟩ = some (.int .i64 (wrap64 v5)) := HTp.out.cell 4
  have g5 : wp.cell? ⟨gf, 5, none⟩ = some (.int .i64 (wrap64 v6)) := HTp.out.cell 5
  have g6 : wp.cell? ⟨gf, 6, none⟩ = some (.string D) := HTp.out.cell 6
  have g7 : wp.cell? ⟨gf, 7, none⟩ = some (.bool fl) := HTp.out.cell 7
  clear h10 
  go_wp2
  clear g0 g1 g2 g3 g4 g5 g6 g7 hne
  obtain ⟨Z, hZ⟩ : ∃ Z, Z = (((((((wp.setCell ⟨w.heap.size, 0, none⟩ (.int .i64 (v1 : Int))).setCell ⟨w.heap.size, 1, none⟩ (.int .i64 (v2 : Int))).setCell ⟨w.heap.size, 2, none⟩ (.int .i64 (wrap64 v3))).setCell ⟨w.heap.size, 3, none⟩ (.int .i64 (wrap64 v4))).setCell ⟨w.heap.size, 4, none⟩ (.int .i64 (wrap64 v5))).setCell ⟨w.heap.size, 5, none⟩ (.int .i64 (wrap64 v6))).setCell ⟨w.heap.size, 6, none⟩ (.string D)).setCell ⟨w.heap.size, 7, none⟩ (.bool fl) := ⟨_, rfl⟩
  have hx : Sits Z w.heap.size 29 #[.int .i64 (v1 : Int), .int .i64 (v2 : Int), .int .i64 (wrap64 v3), .int .i64 (wrap64 v4), .int .i64 (wrap64 v5), .int .i64 (wrap64 v6), .string D, .bool fl] := hZ ▸ ((((((((HSp.out.put 0 (.int .i64 (v1 : Int))).put 1 (.int .i64 (v2 : Int))).put 2 (.int .i64 (wrap64 v3))).put 3 (.int .i64 (wrap64 v4))).put 4 (.int .i64 (wrap64 v5))).put 5 (.int .i64 (wrap64 v6))).put 6 (.string D)).put 7 (.bool fl))
  have hl8 : Below w.heap.size w Z := hZ ▸ ((((((((HBp.out.setCell (Nat.le_refl _) _).setCell (Nat.le_refl _) _).setCell (Nat.le_refl _) _).setCell (Nat.le_refl _) _).setCell (Nat.le_refl _) _).setCell (Nat.le_refl _) _).setCell (Nat.le_refl _) _).setCell (Nat.le_refl _) _)
  rw [← hZ]
  have e0 : Z.cell? ⟨w.heap.size, 0, none⟩ = some (.int .i64 (v1 : Int)) := hx.cell 0
  have e1 : Z.cell? ⟨w.heap.size, 1, none⟩ = some (.int .i64 (v2 : Int)) := hx.cell 1
  have e2 : Z.cell? ⟨w.heap.size, 2, none⟩ = some (.int .i64 (wrap64 v3)) := hx.cell 2
  have e3 : Z.cell? ⟨w.heap.size, 3, none⟩ = some (.int .i64 (wrap64 v4)) := hx.cell 3
  have e4 : Z.cell? ⟨w.heap.size, 4, none⟩ = some (.int .i64 (wrap64 v5)) := hx.cell 4
  have e5 : Z.cell? ⟨w.heap.size, 5, none⟩ = some (.int .i64 (wrap64 v6)) := hx.cell 5
  have e6 : Z.cell? ⟨w.heap.size, 6, none⟩ = some (.string D) := hx.cell 6
  have e7 : Z.cell? ⟨w.heap.size, 7, none⟩ = some (.bool fl) := hx.cell 7
  clear z0 z1 z2 z3 z4 z5 z6 z7 f0 f1 f2 f3 f4 f5 f6 f7 hx hZ
  refine bodyPost_ret (v := .tuple #[.agg #[.int .i64 (v1 : Int), .int .i64 (v2 : Int), .int .i64 (wrap64 v3), .int .i64 (wrap64 v4), .int .i64 (wrap64 v5), .int .i64 (wrap64 v6), .string D, .bool fl], .int .i64 0]) ?_ rfl ⟨by unfold aggF; rw [HD.out], hl8⟩
  simp [results, Try.results14, go_sem, e0, e1, e2, e3, e4, e5, e6, e7]
theorem rfget_any (b : List UInt8) (hb : b.length ≤ 1000000) (w : World) : Calls Try.prog 14 #[.string (str b)] w fun e w' => e = .returned (.tuple #[aggF (fgetF b).1, .int .i64 (fgetF b).2]) ∧ Below w.heap.size w w' := by
  unfold fgetF
  by_cases h : opnE (str b) ≠ 0
  · rw [if_pos h]
    exact rfget_sum b hb h w
  · rw [if_neg h]
    exact rfget_rest b hb (Decidable.not_not.1 h) w
end Go.Proofs.Ytieodancccefiaa
