/- The statement BlockBack of package block: an image is read as it was put, of its own number alone; with one byte changed it is none; it holds of every image and every three ints. -/
import Derived.Test.YtmlhncheodpbpaaGreatBlkO
import Derived.Test.YtmlhncheodpbpaaGreatGB
import Derived.Test.YtmlhncheodpbpaaGreatGA
import Derived.ChangeOld
namespace Go.Proofs.YtmlhncheodpbpaaGreat
open Go Go.RowKit Go.ChangeShapes Go.WideShapes Go.ChangeAt
set_option maxRecDepth 100000
set_option maxHeartbeats 2000000
set_option linter.unusedSimpArgs false

theorem blockBack_long (i : Im) (n a b : Int) (w : World) (h : 300 < i.d.length) :
    Calls Tryz.prog 6 #[aggI i, .int .i64 n, .int .i64 a, .int .i64 b] w fun e w' => e = .returned (.bool true) ∧ Below w.heap.size w w' := by
  have HA := Lib.hid alive10_any
  obtain ⟨ib, iv, d⟩ := i
  unfold aggI
  simp only at h ⊢
  have d1 : decide (300 < ((str d).size : Int)) = true := decide_eq_true (by rw [str_size]; omega)
  clear h
  go_enter Tryz.func6, Tryz.ntmps6
  go_wp2_with fail
  (with_reducible refine (HA.out _).mono ?_)
  rintro e w1 ⟨rfl, hb⟩
  have HF := Lib.hid (((Below.refl w.heap.size w).alloc (Nat.le_refl _) _).trans (hb.mono (by simp)))
  clear hb
  go_wp2
  go_ret
  exact ⟨rfl, HF.out⟩
theorem blockBack_bad (i : Im) (n a b : Int) (w : World) (h : ¬ 300 < i.d.length) (hk : okI i = false) :
    Calls Tryz.prog 6 #[aggI i, .int .i64 n, .int .i64 a, .int .i64 b] w fun e w' => e = .returned (.bool true) ∧ Below w.heap.size w w' := by
  have HA := Lib.hid alive10_any
  have HP := Lib.hid (bput_bad i hk)
  obtain ⟨ib, iv, d⟩ := i
  unfold aggI at HP ⊢
  simp only at h HP ⊢
  have d1 : decide (300 < ((str d).size : Int)) = false := decide_eq_false (by rw [str_size]; omega)
  have hnil : (⟨#[]⟩ : ByteArray).toList = [] := by simp [ByteArray.toList_eq]
  clear h hk
  go_enter Tryz.func6, Tryz.ntmps6
  go_wp2_with fail
  (with_reducible refine (HP.out _).mono ?_)
  rintro e w1 ⟨rfl, hb⟩
  have HB := Lib.hid (((Below.refl w.heap.size w).alloc (Nat.le_refl _) (.cells #[.int .i64 ib, .int .u64 (iv : Int), .string (str d)] 24)).trans (hb.mono (by simp)))
  clear hb
  go_wp2_with fail
  (with_reducible refine (HA.out _).mono ?_)
  rintro e w2 ⟨rfl, hb⟩
  have HF := Lib.hid (HB.out.trans (hb.mono HB.out.size))
  clear hb
  go_wp2
  go_ret
  exact ⟨rfl, HF.out⟩
theorem blockBack_low (i : Im) (n a b : Int) (w : World) (h : ¬ 300 < i.d.length) (hk : okI i = true) (hv : (i.v : Int) < 18446744073709551616) (ha : a < 0 ∨ b % 256 = 0) :
    Calls Tryz.prog 6 #[aggI i, .int .i64 n, .int .i64 a, .int .i64 b] w fun e w' => e = .returned (.bool true) ∧ Below w.heap.size w w' := by
  obtain ⟨d2, hd2, hd3⟩ : ∃ d2 : Bool, decide (a < 0) = d2 ∧ (d2 = false → ((b % 256) == 0) = true) := ⟨_, rfl, fun e => by
    have := of_decide_eq_false e
    rw [beq_iff_eq]
    omega⟩
  clear ha
  have HA := Lib.hid alive10_any
  have HP := Lib.hid (bput_ok i hk hv)
  have HG : Hid (∀ W : World, Calls Tryz.prog 10 #[.int .i64 i.b, .string (str (putL i))] W fun e w' => e = .returned (.tuple #[aggI i, .int .i64 0]) ∧ Below W.heap.size W w') := Lib.hid fun W => by
    have h := bget_any i.b (putL i) W
    rw [get_put hk hv i.b, if_pos rfl] at h
    exact h
  have HH := Lib.hid (bget_any n (putL i))
  have hge : n = i.b ∨ (getF n (putL i)).2 = 4 := by
    rw [get_put hk hv n]
    by_cases e : n = i.b
    · exact .inl e
    · rw [if_neg e]
      exact .inr rfl
  have hpl := putL_len (okI_iff.1 hk).2
  obtain ⟨⟨⟨zb, zv, zd⟩, ze⟩, hz⟩ : ∃ x, x = getF n (putL i) := ⟨_, rfl⟩
  rw [← hz] at HH hge
  obtain ⟨L, hL⟩ : ∃ L, L = putL i := ⟨_, rfl⟩
  rw [← hL] at HP HG HH hpl
  have hLz : (((str L).size : Int) != 128) = false := by rw [str_size, hpl]; rfl
  have HLZ := Lib.hid hpl
  obtain ⟨ib, iv, d⟩ := i
  unfold aggI at HP HG HH ⊢
  simp only at h hv HP HG HH hge ⊢
  have d1 : decide (300 < ((str d).size : Int)) = false := decide_eq_false (by rw [str_size]; omega)
  generalize str d = E at *
  generalize str zd = ZD at *
  clear h hk hv hz hL hpl
  obtain ⟨dn, hdn, hze⟩ : ∃ dn : Bool, (n == ib) = dn ∧ (dn = false → (((ze : Nat) : Int) == 4) = true) := by
    refine ⟨_, rfl, fun e => ?_⟩
    rcases hge with h | h
    · rw [h] at e; simp at e
    · rw [show ze = 4 from h]; rfl
  clear hge
  obtain ⟨wa, hwa⟩ : ∃ wa, wa = w.alloc (.cells #[.int .i64 ib, .int .u64 (iv : Int), .string E] 24) := ⟨_, rfl⟩
  obtain ⟨pa, hpa⟩ : ∃ pa, pa = w.heap.size := ⟨_, rfl⟩
  have HBA : Hid (Below w.heap.size w wa) := Lib.hid (by rw [hwa]; exact (Below.refl w.heap.size w).alloc (Nat.le_refl _) _)
  have HSA : Hid (Sits wa pa 24 #[.int .i64 ib, .int .u64 (iv : Int), .string E]) := Lib.hid (by rw [hwa, hpa]; exact Sits.fresh w _ _)
  go_enter Tryz.func6, Tryz.ntmps6
  go_wp2_with fail
  rw [← hwa, ← hpa]
  clear hwa hpa
  (with_reducible refine (HP.out _).mono ?_)
  rintro e w1 ⟨rfl, hb⟩
  have HS1 := Lib.hid (HSA.out.below' hb)
  have HB1 := Lib.hid (HBA.out.trans (hb.mono HBA.out.size))
  clear hb
  have c0 : w1.cell? ⟨pa, 0, none⟩ = some (.int .i64 ib) := HS1.out.cell 0
  go_wp2_with fail
  clear c0
  (with_reducible refine (HG.out _).mono ?_)
  rintro e w2 ⟨rfl, hb⟩
  have HS2 := Lib.hid (HS1.out.below' hb)
  have HB2 := Lib.hid (HB1.out.trans (hb.mono HB1.out.size))
  clear hb
  obtain ⟨w3, hw3⟩ : ∃ x, x = w2.alloc (.cells #[.int .i64 ib, .int .u64 (iv : Int), .string E] 24) := ⟨_, rfl⟩
  obtain ⟨g, hg⟩ : ∃ x, x = w2.heap.size := ⟨_, rfl⟩
  have hba : Below w2.heap.size w2 w3 := hw3 ▸ (Below.refl _ w2).alloc (Nat.le_refl _) _
  have hk3 : Sits w3 g 24 #[.int .i64 ib, .int .u64 (iv : Int), .string E] := by rw [hw3, hg]; exact Sits.fresh w2 _ _
  have hs3 := HS2.out.below' hba
  have HS3 := Lib.hid hs3
  have HB3 := Lib.hid (HB2.out.trans (hba.mono HB2.out.size))
  have c0 : w3.cell? ⟨pa, 0, none⟩ = some (.int .i64 ib) := hs3.cell 0
  have c1 : w3.cell? ⟨pa, 1, none⟩ = some (.int .u64 (iv : Int)) := hs3.cell 1
  have c2 : w3.cell? ⟨pa, 2, none⟩ = some (.string E) := hs3.cell 2
  have e0 : w3.cell? ⟨g, 0, none⟩ = some (.int .i64 ib) := hk3.cell 0
  have e1 : w3.cell? ⟨g, 1, none⟩ = some (.int .u64 (iv : Int)) := hk3.cell 1
  have e2 : w3.cell? ⟨g, 2, none⟩ = some (.string E) := hk3.cell 2
  rw [hw3] at c0 c1 c2 e0 e1 e2
  rw [hg] at e0 e1 e2
  clear hba hk3 hs3
  go_wp2_with fail
  rw [← hw3, ← hg]
  clear hw3 hg c0 c1 c2 e0 e1 e2
  (with_reducible refine (HH.out _).mono ?_)
  rintro e w4 ⟨rfl, hb⟩
  have HS4 := Lib.hid (HS3.out.below' hb)
  have HB4 := Lib.hid (HB3.out.trans (hb.mono HB3.out.size))
  clear hb
  obtain ⟨w5, hw5⟩ : ∃ x, x = w4.alloc (.cells #[.int .i64 zb, .int .u64 (zv : Int), .string ZD] 24) := ⟨_, rfl⟩
  have hba : Below w4.heap.size w4 w5 := hw5 ▸ (Below.refl _ w4).alloc (Nat.le_refl _) _
  have HS5 := Lib.hid (HS4.out.below' hba)
  have HB5 := Lib.hid (HB4.out.trans (hba.mono HB4.out.size))
  clear hba
  cases d2 with
  | true =>
    go_wp2_with fail
    rw [← hw5]
    clear hw5
    (with_reducible refine (HA.out _).mono ?_)
    rintro e wz ⟨rfl, hb⟩
    have HF := Lib.hid (HB5.out.trans (hb.mono HB5.out.size))
    have c0 : wz.cell? ⟨pa, 0, none⟩ = some (.int .i64 ib) := (HS5.out.below' hb).cell 0
    clear hb
    cases dn with
    | true =>
      go_wp2
      go_ret
      exact ⟨rfl, HF.out⟩
    | false =>
      have hze2 := hze rfl
      go_wp2
      go_ret
      exact ⟨rfl, HF.out⟩
  | false =>
    have hd4 := hd3 rfl
    go_wp2_with fail
    rw [← hw5]
    clear hw5
    (with_reducible refine (HA.out _).mono ?_)
    rintro e wz ⟨rfl, hb⟩
    have HF := Lib.hid (HB5.out.trans (hb.mono HB5.out.size))
    have c0 : wz.cell? ⟨pa, 0, none⟩ = some (.int .i64 ib) := (HS5.out.below' hb).cell 0
    clear hb
    cases dn with
    | true =>
      go_wp2
      go_ret
      exact ⟨rfl, HF.out⟩
    | false =>
      have hze2 := hze rfl
      go_wp2
      go_ret
      exact ⟨rfl, HF.out⟩
theorem blockBack_pos (i : Im) (n b : Int) (w : World) (h : ¬ 300 < i.d.length) (hk : okI i = true) (hv : (i.v : Int) < 18446744073709551616) (k : Nat) (c : Nat) (hc : b % 256 = (c : Int)) (hc1 : c < 256) (hc0 : c ≠ 0) :
    Calls Tryz.prog 6 #[aggI i, .int .i64 n, .int .i64 (k : Int), .int .i64 b] w fun e w' => e = .returned (.bool true) ∧ Below w.heap.size w w' := by
  have HA := Lib.hid alive10_any
  have HP := Lib.hid (bput_ok i hk hv)
  have HG : Hid (∀ W : World, Calls Tryz.prog 10 #[.int .i64 i.b, .string (str (putL i))] W fun e w' => e = .returned (.tuple #[aggI i, .int .i64 0]) ∧ Below W.heap.size W w') := Lib.hid fun W => by
    have h := bget_any i.b (putL i) W
    rw [get_put hk hv i.b, if_pos rfl] at h
    exact h
  have HH := Lib.hid (bget_any n (putL i))
  have hge : n = i.b ∨ (getF n (putL i)).2 = 4 := by
    rw [get_put hk hv n]
    by_cases e : n = i.b
    · exact .inl e
    · rw [if_neg e]
      exact .inr rfl
  have hpl := putL_len (okI_iff.1 hk).2
  have hql : k % 128 < (putL i).length := by rw [hpl]; omega
  obtain ⟨u, hu, hux⟩ := xor_other (putL i)[k % 128] c hc1 hc0
  have HG2 : Hid (∀ W : World, Calls Tryz.prog 10 #[.int .i64 i.b, .string (str ((putL i).set (k % 128) u))] W fun e w' => e = .returned (.tuple #[.agg #[.int .i64 0, .int .u64 0, .string ⟨#[]⟩], .int .i64 6]) ∧ Below W.heap.size W w') := Lib.hid fun W => by
    have h := bget_any i.b ((putL i).set (k % 128) u) W
    rw [get_set hk i.b (k % 128) (by omega) u (by rw [List.getElem?_eq_getElem hql]; exact fun e => hu (Option.some.inj e).symm)] at h
    exact h
  obtain ⟨⟨⟨zb, zv, zd⟩, ze⟩, hz⟩ : ∃ x, x = getF n (putL i) := ⟨_, rfl⟩
  rw [← hz] at HH hge
  obtain ⟨L, hL⟩ : ∃ L, L = putL i := ⟨_, rfl⟩
  rw [← hL] at HP HG HH hpl HG2
  have hql : k % 128 < L.length := by rw [hpl]; omega
  have hLz : (((str L).size : Int) != 128) = false := by rw [str_size, hpl]; rfl
  have HLZ := Lib.hid hpl
  obtain ⟨yq, hyq⟩ : ∃ n, n = (L[k % 128].toNat : Int) := ⟨_, rfl⟩
  obtain ⟨un, hun⟩ : ∃ n, n = (u.toNat : Int) := ⟨_, rfl⟩
  have hux : bits .xor .u8 yq (c : Int) = un := by subst hL; rw [hyq, hun]; exact hux
  have HYQ := Lib.hid hyq
  have HUN := Lib.hid hun
  have HQL := Lib.hid hql
  have HC := Lib.hid hc
  have HUX := Lib.hid hux
  have d3 : decide ((k : Int) < 0) = false := decide_eq_false (by omega)
  have p3 : k % 128 < L.length := hql
  have p4 : (k : Int) % 128 < (L.length : Int) := by omega
  have d4 : ((c : Int) == 0) = false := by rw [beq_eq_false_iff_ne]; omega
  clear hyq hun hu
  obtain ⟨ib, iv, d⟩ := i
  unfold aggI at HP HG HH ⊢
  simp only at h hv HP HG HH hge HG2 ⊢
  have d1 : decide (300 < ((str d).size : Int)) = false := decide_eq_false (by rw [str_size]; omega)
  generalize str d = E at *
  generalize str zd = ZD at *
  clear h hk hv hz hL hpl
  obtain ⟨dn, hdn, hze⟩ : ∃ dn : Bool, (n == ib) = dn ∧ (dn = false → (((ze : Nat) : Int) == 4) = true) := by
    refine ⟨_, rfl, fun e => ?_⟩
    rcases hge with h | h
    · rw [h] at e; simp at e
    · rw [show ze = 4 from h]; rfl
  clear hge
  obtain ⟨wa, hwa⟩ : ∃ wa, wa = w.alloc (.cells #[.int .i64 ib, .int .u64 (iv : Int), .string E] 24) := ⟨_, rfl⟩
  obtain ⟨pa, hpa⟩ : ∃ pa, pa = w.heap.size := ⟨_, rfl⟩
  have HBA : Hid (Below w.heap.size w wa) := Lib.hid (by rw [hwa]; exact (Below.refl w.heap.size w).alloc (Nat.le_refl _) _)
  have HSA : Hid (Sits wa pa 24 #[.int .i64 ib, .int .u64 (iv : Int), .string E]) := Lib.hid (by rw [hwa, hpa]; exact Sits.fresh w _ _)
  go_enter Tryz.func6, Tryz.ntmps6
  go_wp2_with fail
  rw [← hwa, ← hpa]
  clear hwa hpa
  (with_reducible refine (HP.out _).mono ?_)
  rintro e w1 ⟨rfl, hb⟩
  have HS1 := Lib.hid (HSA.out.below' hb)
  have HB1 := Lib.hid (HBA.out.trans (hb.mono HBA.out.size))
  clear hb
  have c0 : w1.cell? ⟨pa, 0, none⟩ = some (.int .i64 ib) := HS1.out.cell 0
  go_wp2_with fail
  clear c0
  (with_reducible refine (HG.out _).mono ?_)
  rintro e w2 ⟨rfl, hb⟩
  have HS2 := Lib.hid (HS1.out.below' hb)
  have HB2 := Lib.hid (HB1.out.trans (hb.mono HB1.out.size))
  clear hb
  obtain ⟨w3, hw3⟩ : ∃ x, x = w2.alloc (.cells #[.int .i64 ib, .int .u64 (iv : Int), .string E] 24) := ⟨_, rfl⟩
  obtain ⟨g, hg⟩ : ∃ x, x = w2.heap.size := ⟨_, rfl⟩
  have hba : Below w2.heap.size w2 w3 := hw3 ▸ (Below.refl _ w2).alloc (Nat.le_refl _) _
  have hk3 : Sits w3 g 24 #[.int .i64 ib, .int .u64 (iv : Int), .string E] := by rw [hw3, hg]; exact Sits.fresh w2 _ _
  have hs3 := HS2.out.below' hba
  have HS3 := Lib.hid hs3
  have HB3 := Lib.hid (HB2.out.trans (hba.mono HB2.out.size))
  have c0 : w3.cell? ⟨pa, 0, none⟩ = some (.int .i64 ib) := hs3.cell 0
  have c1 : w3.cell? ⟨pa, 1, none⟩ = some (.int .u64 (iv : Int)) := hs3.cell 1
  have c2 : w3.cell? ⟨pa, 2, none⟩ = some (.string E) := hs3.cell 2
  have e0 : w3.cell? ⟨g, 0, none⟩ = some (.int .i64 ib) := hk3.cell 0
  have e1 : w3.cell? ⟨g, 1, none⟩ = some (.int .u64 (iv : Int)) := hk3.cell 1
  have e2 : w3.cell? ⟨g, 2, none⟩ = some (.string E) := hk3.cell 2
  rw [hw3] at c0 c1 c2 e0 e1 e2
  rw [hg] at e0 e1 e2
  clear hba hk3 hs3
  go_wp2_with fail
  rw [← hw3, ← hg]
  clear hw3 hg c0 c1 c2 e0 e1 e2
  (with_reducible refine (HH.out _).mono ?_)
  rintro e w4 ⟨rfl, hb⟩
  have HS4 := Lib.hid (HS3.out.below' hb)
  have HB4 := Lib.hid (HB3.out.trans (hb.mono HB3.out.size))
  clear hb
  obtain ⟨w5, hw5⟩ : ∃ x, x = w4.alloc (.cells #[.int .i64 zb, .int .u64 (zv : Int), .string ZD] 24) := ⟨_, rfl⟩
  have hba : Below w4.heap.size w4 w5 := hw5 ▸ (Below.refl _ w4).alloc (Nat.le_refl _) _
  have HS5 := Lib.hid (HS4.out.below' hba)
  have HB5 := Lib.hid (HB4.out.trans (hba.mono HB4.out.size))
  clear hba
  have hs5 := HS5.out
  have c0 : w5.cell? ⟨pa, 0, none⟩ = some (.int .i64 ib) := hs5.cell 0
  obtain ⟨cb, Wb, rb, lb, cellb, fzb, bb⟩ := text_bytes (P := Tryz.prog) w5 9 50 5 L Tryz.underlying9 Tryz.underlying50 Tryz.underlying5
  have hbn : w5.heap.size = w4.heap.size + 1 := by rw [hw5, World.size_alloc]
  have bp : Wb.cell? ⟨w4.heap.size + 1, k % 128, none⟩ = some (.int .u8 yq) := by rw [HYQ.out, ← hbn]; exact cellb (k % 128) HQL.out
  have bf : Wb.frozen? ⟨w4.heap.size + 1, k % 128, none⟩ = false := by rw [← hbn]; exact fzb (k % 128) HQL.out
  obtain ⟨X2, hX2⟩ : ∃ X, X = Wb.setCell ⟨w4.heap.size + 1, k % 128, none⟩ (.int .u8 un) := ⟨_, rfl⟩
  have xb : ∀ j (h : j < (L.set (k % 128) u).length), X2.cell? ⟨w4.heap.size + 1, j, none⟩ = some (.int .u8 (((L.set (k % 128) u)[j]).toNat : Int)) := fun j h => by
    rw [hX2, HUN.out, ← hbn]
    exact cells_set _ _ L (k % 128) u cellb j h
  have ra := text_of_cells X2 (w4.heap.size + 1) cb L.length (L.set (k % 128) u) xb (by rw [List.length_set])
  have hsb := hs5.below' bb
  have HSX : Hid (Sits X2 pa 24 #[.int .i64 ib, .int .u64 (iv : Int), .string E]) := Lib.hid (by
    rw [hX2]
    exact hsb.away (show pa ≠ w4.heap.size + 1 by have := hs5.lt; omega) _)
  have x0 : X2.cell? ⟨pa, 0, none⟩ = some (.int .i64 ib) := HSX.out.cell 0
  have HBX : Hid (Below w.heap.size w X2) := Lib.hid (by
    rw [hX2, ← hbn]
    exact (HB5.out.trans (bb.mono HB5.out.size)).setCell HB5.out.size _)
  rw [hX2] at ra x0
  rw [hbn, hw5] at rb
  have hc := HC.out
  have hux := HUX.out
  have HX := Lib.hid hX2
  clear cellb fzb xb hbn hw5 bb HB5 hX2 hsb hs5 c0
  go_wp2_with fail
  clear hux hc bp bf rb ra x0
  (with_reducible refine (HG2.out _).mono ?_)
  rintro e w6 ⟨rfl, hb⟩
  rw [← HX.out] at hb
  have HS6 := Lib.hid (HSX.out.below' hb)
  have HB6 := Lib.hid (HBX.out.trans (hb.mono HBX.out.size))
  clear hb
  obtain ⟨w7, hw7⟩ : ∃ x, x = w6.alloc (.cells #[.int .i64 0, .int .u64 0, .string ⟨#[]⟩] 24) := ⟨_, rfl⟩
  have hba : Below w6.heap.size w6 w7 := hw7 ▸ (Below.refl _ w6).alloc (Nat.le_refl _) _
  have HS7 := Lib.hid (HS6.out.below' hba)
  have HB7 := Lib.hid (HB6.out.trans (hba.mono HB6.out.size))
  clear hba
  go_wp2_with fail
  rw [← hw7]
  clear hw7
  (with_reducible refine (HA.out _).mono ?_)
  rintro e wz ⟨rfl, hb⟩
  have HF := Lib.hid (HB7.out.trans (hb.mono HB7.out.size))
  have c0 : wz.cell? ⟨pa, 0, none⟩ = some (.int .i64 ib) := (HS7.out.below' hb).cell 0
  clear hb
  cases dn with
  | true =>
    go_wp2
    go_ret
    exact ⟨rfl, HF.out⟩
  | false =>
    have hze2 := hze rfl
    go_wp2
    go_ret
    exact ⟨rfl, HF.out⟩
theorem blockBack_walk (v : Value) (i : Im) (n : Int) (_wn : (Lit.int .i64 n).wf = true) (a : Int) (_wa : (Lit.int .i64 a).wf = true) (b : Int) (_wb : (Lit.int .i64 b).wf = true) (w : World) (hi : ImIn i ∧ v = aggI i) :
    Calls Tryz.prog 6 #[v, .int .i64 n, .int .i64 a, .int .i64 b] w fun e w' => e = .returned (.bool true) ∧ Below w.heap.size w w' := by
  obtain ⟨hi, rfl⟩ := hi
  by_cases h : 300 < i.d.length
  · exact blockBack_long i n a b w h
  · cases hk : okI i
    · exact blockBack_bad i n a b w h hk
    · by_cases ha : a < 0 ∨ b % 256 = 0
      · exact blockBack_low i n a b w h hk hi.v ha
      · obtain ⟨k, rfl⟩ := Int.eq_ofNat_of_zero_le (show 0 ≤ a by omega)
        exact blockBack_pos i n b w h hk hi.v k (b % 256).toNat (by omega) (by omega) (by omega)

set_option maxRecDepth 100000 in
theorem blockBack_lifted (os : Os) (started : os.Started) (H : Type) (enc : TypeId × Value → H) :
    ReturnsInHanded {} Tryz.checked os 6 .any (Rows.blockBackSpec.pre6 enc Tryz.prog Tryz.f6 Rows.blockBackRow.domain false) (Rows.blockBackSpec.post enc Tryz.prog Tryz.f6 false true false false) := by
  refine returnsInHanded_of_change (C := Tryz.checked) own started (by kernel_rfl) Tryz.func6
    (ChangeSpec.witness6 (enc := enc) (C := Tryz.checked) false ⟨#[], #[.agg #[.int .i64 0, .int .u64 0, .string ByteArray.empty], .int .i64 0, .int .i64 0, .int .i64 0], []⟩ 8 (by kernel_rfl) (by kernel_rfl) (by kernel_rfl) (by kernel_rfl)) ?_
  intro W base args ds gs before hval0 hW _ _
  have hval : ∀ (j : Nat) t v, Tryz.f6.params[j]? = some t → args[j]? = some v → Value.okWide Tryz.prog W .any base t v := hval0
  have hW' := hW
  obtain ⟨p, q, hA0, hV, rfl, hfz, hnd⟩ := hW
  have hA : DataW.TrodAll enc Tryz.prog W 0 (fun _ => true) true Tryz.f6.params.toList args.toList ds p := hA0
  rw [Tryz.params6] at hA hval
  obtain ⟨v0, vs0, d0, ds0, p0, q0, hargs, rfl, rfl, h0, r0⟩ := trodAll_cons hA
  obtain ⟨v1, vs1, d1, ds1, p1, q1, rfl, rfl, rfl, h1, r1⟩ := trodAll_cons r0
  obtain ⟨v2, vs2, d2, ds2, p2, q2, rfl, rfl, rfl, h2, r2⟩ := trodAll_cons r1
  obtain ⟨v3, vs3, d3, ds3, p3, q3, rfl, rfl, rfl, h3, r3⟩ := trodAll_cons r2
  obtain ⟨rfl, rfl, rfl⟩ := trodAll_nil r3
  obtain rfl : args = #[v0, v1, v2, v3] := by cases args; simp_all
  obtain ⟨rfl, rfl⟩ := trodVars_none hV
  have k0 := h0
  have lt0 : ∀ x ∈ p0, x.block < W.heap.size := by obtain ⟨m, hm⟩ := k0; exact DataW.trod_lt m _ _ _ hm
  have k1 := h1
  have lt1 : ∀ x ∈ p1, x.block < W.heap.size := by obtain ⟨m, hm⟩ := k1; exact DataW.trod_lt m _ _ _ hm
  have k2 := h2
  have lt2 : ∀ x ∈ p2, x.block < W.heap.size := by obtain ⟨m, hm⟩ := k2; exact DataW.trod_lt m _ _ _ hm
  have k3 := h3
  have lt3 : ∀ x ∈ p3, x.block < W.heap.size := by obtain ⟨m, hm⟩ := k3; exact DataW.trod_lt m _ _ _ hm
  obtain ⟨a0, w0⟩ := image_open (hval 0 24 v0 rfl rfl) k0
  obtain ⟨a1, rfl, rfl, rfl, w1⟩ := open_int Tryz.underlying3 (hval 1 3 v1 rfl rfl) h1
  obtain ⟨a2, rfl, rfl, rfl, w2⟩ := open_int Tryz.underlying3 (hval 2 3 v2 rfl rfl) h2
  obtain ⟨a3, rfl, rfl, rfl, w3⟩ := open_int Tryz.underlying3 (hval 3 3 v3 rfl rfl) h3
  clear hA0 hval0
  refine (blockBack_walk v0 a0 a1 w1 a2 w2 a3 w3 W w0).mono fun e W' ⟨he, bel⟩ => ?_
  subst he
  exact ⟨_, rfl, _, _, _, [], _, [], hW', trodAll_mk1 (shut_bool Tryz.underlying4 _), (trodAll_cons_mk (Below.trod laidOut (by kernel_rfl) (of_decide_eq_true (by kernel_rfl)) k0 bel lt0) (trodAll_cons_mk (Below.trod laidOut (by kernel_rfl) (of_decide_eq_true (by kernel_rfl)) k1 bel lt1) (trodAll_cons_mk (Below.trod laidOut (by kernel_rfl) (of_decide_eq_true (by kernel_rfl)) k2 bel lt2) (trodAll_cons_mk (Below.trod laidOut (by kernel_rfl) (of_decide_eq_true (by kernel_rfl)) k3 bel lt3) trodAll_mk0)))), rfl, bel.frame _, fun h => by cases h⟩

theorem blockBack_said : Rows.BlockBackSaid :=
  OpenClaim.holds_of_wide 6 Tryz.f6 rfl rfl rfl rfl rfl rfl rfl ⟨rfl, rfl, rfl, rfl, rfl⟩ rfl rfl rfl rfl rfl (by kernel_rfl) Tryz.func6 (by kernel_rfl)
    (of_decide_eq_true (by kernel_rfl)) (by unfold Func.isWrapper; first | (rw [if_pos (by decide +kernel)]; kernel_rfl) | (rw [if_neg (by decide +kernel)]; exact ⟨rfl, rfl⟩))
    (fun os started H enc _ => blockBack_lifted os started H enc)
#print axioms blockBack_said
end Go.Proofs.YtmlhncheodpbpaaGreat
