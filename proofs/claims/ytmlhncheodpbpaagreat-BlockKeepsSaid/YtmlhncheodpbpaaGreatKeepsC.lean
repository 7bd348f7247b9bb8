/- BlockKeeps where the list of what is kept has two and more, and the second sector alone stays. -/
import Derived.Test.YtmlhncheodpbpaaGreatKeepsP
namespace Go.Proofs.YtmlhncheodpbpaaGreat
open Go Go.RowKit SupP DskP RdkP
set_option maxRecDepth 100000
set_option maxHeartbeats 2000000
set_option linter.unusedSimpArgs false

theorem keeps_2_01 (a b : Im) (x0 : Int) (hx0 : x0 % 2 ≠ 1) (x1 : Int) (hx1 : x1 % 2 = 1) (r : List Int) (kx : Value) (w : World) (hk : Ints w kx (x0 :: x1 :: r)) (hl : (x0 :: x1 :: r).length ≤ 4) (ha : okI a = true) (hb : okI b = true) (hav : (a.v : Int) < 18446744073709551616) (hbv : (b.v : Int) < 18446744073709551616) (hab : b.b = a.b) (hb9 : a.b ≤ 9) :
    Calls Tryz.prog 4 #[aggI a, aggI b, kx] w fun e w' => e = .returned (.bool true) ∧ Below w.heap.size w w' := by
  obtain ⟨hb0, hbl⟩ := okI_iff.1 hb
  obtain ⟨-, hal⟩ := okI_iff.1 ha
  rw [← hab] at hb9
  obtain ⟨q, hq, h17, h37, -, -, -⟩ := place_al hb0.1 hb9
  have hC := keepC rdy_is a b (x0 :: x1 :: r) ha hb hav hbv hab.symm hb9 hq h17 h37
  have hN := keeps_next rdy_is a b hb0.1 hb9 hq h17 h37 ((b.b + 1) % 10) (by omega) (by omega) (by omega)
  have hL := keeps_load rdy_is a b ha hb hab.symm hb9 hq h17 h37 (x0 :: x1 :: r)
  have hs0 : stays (x0 :: x1 :: r) 0 = false := by simp [stays]; omega
  have hs1 : stays (x0 :: x1 :: r) 1 = true := by simp [stays]; omega
  rw [hs0, hs1] at hL
  rw [if_neg (by simp), if_pos rfl] at hL
  obtain ⟨z, zr, hz, hzr⟩ := keeps_mixed hb0 hav hbv (x := a.d.take 48) (y := b.d.drop 48) (by simp; omega) (by simp; omega)
  rw [hz] at hL
  have HLN : Hid (∀ (p : Nat) (w0 W : World), Has (DP p (keepD3 rdyD q a b)) w0 W → Calls Tryz.prog 17 #[.pointer (some ⟨p, 0, none⟩), aggH alSh, .int .i64 ((b.b + 1) % 10)] W fun e w' => e = .returned (.tuple #[.agg #[.int .i64 ((b.b + 1) % 10), .int .u64 0, .string (str (List.replicate 96 0))], .int .i64 0]) ∧ Below W.heap.size W w') := Lib.hid fun p w0 W hW => by
    have h := bload_any p (keepD3 rdyD q a b) alSh alSh_valid ((b.b + 1) % 10) W hW.here
    rw [hN] at h
    exact h
  have HLZ : Hid (∀ (p : Nat) (w0 W : World), Has (DP p (keepD5 rdyD q a b (x0 :: x1 :: r))) w0 W → Calls Tryz.prog 17 #[.pointer (some ⟨p, 0, none⟩), aggH alSh, .int .i64 b.b] W fun e w' => e = .returned (.tuple #[aggI z, .int .i64 (((zr : Nat) : Int) : Int)]) ∧ Below W.heap.size W w') := Lib.hid fun p w0 W hW => by
    have h := bload_any p (keepD5 rdyD q a b (x0 :: x1 :: r)) alSh alSh_valid b.b W hW.here
    rw [hL] at h
    exact h
  have HA := Lib.hid alive10_any
  have HRD : Hid (∀ W : World, Calls Tryz.prog 14 #[] W fun e w' => ∃ p q, e = .returned (.tuple #[.pointer (some ⟨p, 0, none⟩), .pointer (some ⟨q, 0, none⟩), aggH alSh, .bool true]) ∧ Has (DP p rdyD) W w') := Lib.hid fun W => (ready_any W).mono fun e w' ⟨p, q, he, h⟩ => ⟨p, q, he, h.fst (holdD p rdyD)⟩
  obtain ⟨SA, BA, SB, L1, CU, RE⟩ := hC
  have HSA := Lib.hid SA
  have HBA := Lib.hid BA
  have HSB := Lib.hid SB
  have HL1 := Lib.hid L1
  have HCU := Lib.hid CU
  have HRE := Lib.hid RE
  have HHD := Lib.hid holdD
  have HHC := Lib.hid holdC
  generalize keepD5 rdyD q a b (x0 :: x1 :: r) = D5 at *
  generalize cutD (keepD3 rdyD q a b) (x0 :: x1 :: r) = D4 at *
  generalize keepD3 rdyD q a b = D3 at *
  generalize keepD2 rdyD q a = D2 at *
  generalize keepD1 rdyD q a = D1 at *
  generalize rdyD = D0 at *
  obtain ⟨A, cap, rfl, hcap, hcap2, hcells⟩ := hk.one_
  have HKI := Lib.hid hk
  have HLL := Lib.hid hl
  obtain ⟨ab, va, da⟩ := a
  obtain ⟨kb, vb, db⟩ := b
  simp only at hab hal hbl hb9 hb0
  subst hab
  have d1 : (((str da).size : Int) != 96) = false := by rw [str_size, hal]; rfl
  have d2 : (((str db).size : Int) != 96) = false := by rw [str_size, hbl]; rfl
  have hkb0 : decide (kb < 0) = false := decide_eq_false (by omega)
  have hkb9 : decide (9 < kb) = false := decide_eq_false (by omega)
  have hkr1 : 0 ≤ kb := hb0.1
  have hkr2 : kb ≤ 9 := hb9
  unfold aggI at HSA HSB HL1 HLZ ⊢
  unfold aggH alSh at HSA HSB HL1 HLN HLZ HRD
  simp only at HSA HSB HL1 HLN HLZ HRD hzr ⊢
  clear hk hl ha hb hav hbv hb9 hq h17 h37 hN hL hs0 hs1 SA BA SB L1 CU RE hal hbl hb0 hz
  obtain ⟨zb, zv, zd⟩ := z
  generalize str da = EA at *
  generalize str db = EB at *
  generalize str (List.replicate 96 0) = EZ at *
  generalize hED : str zd = ED at *
  obtain ⟨m, hm⟩ : ∃ m, m = ((x0 :: x1 :: r) : List Int).length := ⟨_, rfl⟩
  have hm4 : m ≤ 4 := by rw [hm]; exact HLL.out
  obtain ⟨kg, ko, rfl, hkg, hx0c⟩ := hcells 0 (by simp)
  obtain ⟨kg', ko', e1, -, hx1c⟩ := hcells 1 (by simp)
  injection e1 with e1
  injection e1 with e1 e2
  subst e1 e2
  simp only [Nat.add_zero, List.getElem_cons_zero, List.getElem_cons_succ] at hx0c hx1c
  have hm2 : 2 ≤ m := by rw [hm]; simp
  rw [← hm] at HKI ⊢
  have d3 : decide (4 < (m : Int)) = false := decide_eq_false (by omega)
  have d5 : decide (2 ≤ (m : Int)) = true := decide_eq_true (by omega)
  have d6 : decide ((m : Int) < 1) = false := decide_eq_false (by omega)
  have d7 : decide ((m : Int) < 2) = false := decide_eq_false (by omega)
  have y01 : ((x0 % 2) == 1) = false := by simp only [beq_eq_false_iff_ne]; omega
  have y00 : ((x0 % 2) == 0) = true := by simp only [beq_iff_eq]; omega
  have z0 : bits .and .i64 x0 1 = x0 % 2 := bits_one x0
  have y11 : ((x1 % 2) == 1) = true := by simp only [beq_iff_eq]; omega
  have y10 : ((x1 % 2) == 0) = false := by simp only [beq_eq_false_iff_ne]; omega
  have z1 : bits .and .i64 x1 1 = x1 % 2 := bits_one x1
  have q0 : 0 < m := by omega
  have q1 : 1 < m := by omega
  clear hm hm2 hcells
  obtain ⟨wa, hwa⟩ : ∃ wa, wa = (w.alloc (.cells #[.int .i64 kb, .int .u64 (va : Int), .string EA] 24)).alloc (.cells #[.int .i64 kb, .int .u64 (vb : Int), .string EB] 24) := ⟨_, rfl⟩
  have HB0 : Hid (Below w.heap.size w wa) := Lib.hid (hwa ▸ ((Below.refl w.heap.size w).alloc (Nat.le_refl _) _).alloc (by simp) _)
  have HSAA : Hid (Sits wa w.heap.size 24 #[.int .i64 kb, .int .u64 (va : Int), .string EA]) := Lib.hid (hwa ▸ (Sits.fresh w _ _).alloc _)
  have HSBB : Hid (Sits wa (w.heap.size + 1) 24 #[.int .i64 kb, .int .u64 (vb : Int), .string EB]) := Lib.hid (by
    have := Sits.fresh (w.alloc (.cells #[.int .i64 kb, .int .u64 (va : Int), .string EA] 24)) 24 #[.int .i64 kb, .int .u64 (vb : Int), .string EB]
    rw [World.size_alloc] at this
    exact hwa ▸ this)
  have HKW := Lib.hid (HKI.out.below (HB0.out.mono (Nat.le_refl _)))
  go_enter Tryz.func4, Tryz.ntmps4
  go_wp2_with fail
  rw [← hwa]
  clear hwa
  (with_reducible refine (HRD.out _).mono ?_)
  rintro e w1 ⟨p, q', rfl, ho⟩
  have HO1 := Lib.hid ho
  clear ho
  obtain ⟨w2, hw2⟩ : ∃ w2, w2 = w1.alloc (.cells #[.int .i64 2, .int .i64 10, .int .i64 8, .int .i64 4, .int .i64 32] 39) := ⟨_, rfl⟩
  obtain ⟨g, hg⟩ : ∃ g, g = w1.heap.size := ⟨_, rfl⟩
  have ho2 : Has (Both (DP p D0) (CellAt g 39 layC)) wa w2 := HO1.out.with_ (HHD.out p D0) ⟨⟨by rw [hg]; exact Nat.le_refl _, by rw [hw2, hg]; exact Sits.fresh w1 _ _⟩, by rw [hw2]; exact (Below.refl _ w1).alloc (Nat.le_refl _) _⟩
  have HO2 := Lib.hid ho2
  have sa := HSAA.out.below' ho2.below
  have e0 : w2.cell? ⟨w.heap.size, 0, none⟩ = some (.int .i64 kb) := sa.cell 0
  have e1 : w2.cell? ⟨w.heap.size, 1, none⟩ = some (.int .u64 (va : Int)) := sa.cell 1
  have e2 : w2.cell? ⟨w.heap.size, 2, none⟩ = some (.string EA) := sa.cell 2
  rw [hw2] at e0 e1 e2
  clear ho2 sa HO1
  go_wp2_with fail
  rw [← hw2, ← hg]
  clear hw2 hg e0 e1 e2
  refine (Turns.has (Turns.left (HHD.out p D0) (HHC.out g _ _) (HSA.out p)) HO2.out).mono ?_
  rintro e w3 ⟨rfl, ho⟩
  have HO3 := Lib.hid ho
  clear ho HO2
  go_wp2_with fail
  refine (Turns.has (Turns.left (HHD.out p D1) (HHC.out g _ _) (HBA.out p)) HO3.out).mono ?_
  rintro e w4 ⟨rfl, ho⟩
  have HO4 := Lib.hid ho
  have sb := HSBB.out.below' ho.below
  have e0 : w4.cell? ⟨w.heap.size + 1, 0, none⟩ = some (.int .i64 kb) := sb.cell 0
  have e1 : w4.cell? ⟨w.heap.size + 1, 1, none⟩ = some (.int .u64 (vb : Int)) := sb.cell 1
  have e2 : w4.cell? ⟨w.heap.size + 1, 2, none⟩ = some (.string EB) := sb.cell 2
  have hs := (ho.snd (HHC.out g _ _)).here.2
  have c0 : w4.cell? ⟨g, 0, none⟩ = some (.int .i64 2) := hs.cell 0
  have c1 : w4.cell? ⟨g, 1, none⟩ = some (.int .i64 10) := hs.cell 1
  have c2 : w4.cell? ⟨g, 2, none⟩ = some (.int .i64 8) := hs.cell 2
  have c3 : w4.cell? ⟨g, 3, none⟩ = some (.int .i64 4) := hs.cell 3
  have c4 : w4.cell? ⟨g, 4, none⟩ = some (.int .i64 32) := hs.cell 4
  clear hs
  clear ho sb HO3
  go_wp2_with fail
  clear c0 c1 c2 c3 c4 e0 e1 e2
  refine (Turns.has (Turns.left (HHD.out p D2) (HHC.out g _ _) (HSB.out p)) HO4.out).mono ?_
  rintro e w5 ⟨rfl, ho⟩
  have HO5 := Lib.hid ho
  have sb := HSBB.out.below' ho.below
  have e0 : w5.cell? ⟨w.heap.size + 1, 0, none⟩ = some (.int .i64 kb) := sb.cell 0
  have e1 : w5.cell? ⟨w.heap.size + 1, 1, none⟩ = some (.int .u64 (vb : Int)) := sb.cell 1
  have e2 : w5.cell? ⟨w.heap.size + 1, 2, none⟩ = some (.string EB) := sb.cell 2
  have hs := (ho.snd (HHC.out g _ _)).here.2
  have c0 : w5.cell? ⟨g, 0, none⟩ = some (.int .i64 2) := hs.cell 0
  have c1 : w5.cell? ⟨g, 1, none⟩ = some (.int .i64 10) := hs.cell 1
  have c2 : w5.cell? ⟨g, 2, none⟩ = some (.int .i64 8) := hs.cell 2
  have c3 : w5.cell? ⟨g, 3, none⟩ = some (.int .i64 4) := hs.cell 3
  have c4 : w5.cell? ⟨g, 4, none⟩ = some (.int .i64 32) := hs.cell 4
  clear hs
  clear ho sb HO4
  go_wp2_with fail
  clear c0 c1 c2 c3 c4 e0 e1 e2
  (with_reducible refine (HL1.out _ _ _ (HO5.out.fst (HHD.out p D3))).mono ?_)
  rintro e w6 ⟨rfl, hb⟩
  have HAC := Lib.hid ((HHD.out p D3).both (HHC.out g 39 layC))
  have HO6 := Lib.hid (HO5.out.down HAC.out hb)
  clear hb HO5
  obtain ⟨w7, hw7⟩ : ∃ x, x = w6.alloc (.cells #[.int .i64 kb, .int .u64 (vb : Int), .string EB] 24) := ⟨_, rfl⟩
  obtain ⟨gx, hgx⟩ : ∃ x, x = w6.heap.size := ⟨_, rfl⟩
  have HOA : Hid (Has (Both (Both (DP p D3) (CellAt g 39 layC)) (CellAt gx 24 #[.int .i64 kb, .int .u64 (vb : Int), .string EB])) wa w7) := Lib.hid (HO6.out.with_ HAC.out ⟨⟨by rw [hgx]; exact Nat.le_refl _, by rw [hw7, hgx]; exact Sits.fresh w6 _ _⟩, by rw [hw7]; exact (Below.refl _ w6).alloc (Nat.le_refl _) _⟩)
  have sb := HSBB.out.below' HOA.out.below
  have e0 : w7.cell? ⟨w.heap.size + 1, 0, none⟩ = some (.int .i64 kb) := sb.cell 0
  have e1 : w7.cell? ⟨w.heap.size + 1, 1, none⟩ = some (.int .u64 (vb : Int)) := sb.cell 1
  have e2 : w7.cell? ⟨w.heap.size + 1, 2, none⟩ = some (.string EB) := sb.cell 2
  have hs := ((HOA.out.fst HAC.out).snd (HHC.out g _ _)).here.2
  have c0 : w7.cell? ⟨g, 0, none⟩ = some (.int .i64 2) := hs.cell 0
  have c1 : w7.cell? ⟨g, 1, none⟩ = some (.int .i64 10) := hs.cell 1
  have c2 : w7.cell? ⟨g, 2, none⟩ = some (.int .i64 8) := hs.cell 2
  have c3 : w7.cell? ⟨g, 3, none⟩ = some (.int .i64 4) := hs.cell 3
  have c4 : w7.cell? ⟨g, 4, none⟩ = some (.int .i64 32) := hs.cell 4
  clear hs
  rw [hw7] at c0 c1 c2 c3 c4 e0 e1 e2
  clear sb HO6
  go_wp2_with fail
  rw [← hw7, ← hgx]
  clear hw7 hgx c0 c1 c2 c3 c4 e0 e1 e2
  (with_reducible refine (HLN.out _ _ _ ((HOA.out.fst HAC.out).fst (HHD.out p D3))).mono ?_)
  rintro e w8 ⟨rfl, hb⟩
  have HOB := Lib.hid (HOA.out.down (HAC.out.both (HHC.out gx _ _)) hb)
  clear hb HOA
  obtain ⟨w9, hw9⟩ : ∃ x, x = w8.alloc (.cells #[.int .i64 ((kb + 1) % 10), .int .u64 0, .string EZ] 24) := ⟨_, rfl⟩
  obtain ⟨gy, hgy⟩ : ∃ x, x = w8.heap.size := ⟨_, rfl⟩
  have HOC : Hid (Has (Both (DP p D3) (Both (CellAt g 39 layC) (Both (CellAt gx 24 #[.int .i64 kb, .int .u64 (vb : Int), .string EB]) (CellAt gy 24 #[.int .i64 ((kb + 1) % 10), .int .u64 0, .string EZ])))) wa w9) := Lib.hid (Has.assoc (Has.assoc (HOB.out.with_ (HAC.out.both (HHC.out gx _ _)) ⟨⟨by rw [hgy]; exact Nat.le_refl _, by rw [hw9, hgy]; exact Sits.fresh w8 _ _⟩, by rw [hw9]; exact (Below.refl _ w8).alloc (Nat.le_refl _) _⟩)))
  have HRS := Lib.hid ((HHC.out g 39 layC).both ((HHC.out gx 24 #[.int .i64 kb, .int .u64 (vb : Int), .string EB]).both (HHC.out gy 24 #[.int .i64 ((kb + 1) % 10), .int .u64 0, .string EZ])))
  clear HOB HAC
  go_wp2_with fail
  rw [← hw9, ← hgy]
  clear hw9 hgy
  (with_reducible refine (HCU.out _ _ _ _ _ HRS.out HOC.out HKW.out).mono ?_)
  rintro e w10 ⟨⟨cr, rfl⟩, ho⟩
  have HOD := Lib.hid ho
  clear ho HOC
  go_wp2_with fail
  refine (Turns.has (Turns.left (HHD.out p D4) HRS.out (HRE.out p)) HOD.out).mono ?_
  rintro e w11 ⟨rfl, ho⟩
  have HOE := Lib.hid ho
  have sb := HSBB.out.below' ho.below
  have e0 : w11.cell? ⟨w.heap.size + 1, 0, none⟩ = some (.int .i64 kb) := sb.cell 0
  have e1 : w11.cell? ⟨w.heap.size + 1, 1, none⟩ = some (.int .u64 (vb : Int)) := sb.cell 1
  have e2 : w11.cell? ⟨w.heap.size + 1, 2, none⟩ = some (.string EB) := sb.cell 2
  have hs := ((ho.snd HRS.out).fst (HHC.out g _ _)).here.2
  have c0 : w11.cell? ⟨g, 0, none⟩ = some (.int .i64 2) := hs.cell 0
  have c1 : w11.cell? ⟨g, 1, none⟩ = some (.int .i64 10) := hs.cell 1
  have c2 : w11.cell? ⟨g, 2, none⟩ = some (.int .i64 8) := hs.cell 2
  have c3 : w11.cell? ⟨g, 3, none⟩ = some (.int .i64 4) := hs.cell 3
  have c4 : w11.cell? ⟨g, 4, none⟩ = some (.int .i64 32) := hs.cell 4
  clear hs
  clear ho sb HOD
  go_wp2_with fail
  clear c0 c1 c2 c3 c4 e0 e1 e2
  (with_reducible refine (HLZ.out _ _ _ (HOE.out.fst (HHD.out p D5))).mono ?_)
  rintro e w12 ⟨rfl, hb⟩
  have HOF := Lib.hid (HOE.out.down ((HHD.out p D5).both HRS.out) hb)
  clear hb HOE
  rcases hzr with ⟨hne, hz0, rfl⟩ | ⟨heq, rfl⟩
  · injection hz0 with e1 e2 e3
    subst e1 e2 e3
    have hEDn : ED = ⟨#[]⟩ := hED.symm
    subst hEDn
    have dv : ((va : Int) != (vb : Int)) = true := by simp only [bne_iff_ne]; omega
    clear hne hED
    obtain ⟨w13, hw13⟩ : ∃ x, x = w12.alloc (.cells #[.int .i64 0, .int .u64 0, .string ⟨#[]⟩] 24) := ⟨_, rfl⟩
    obtain ⟨gz, hgz⟩ : ∃ x, x = w12.heap.size := ⟨_, rfl⟩
    have hba : Below w12.heap.size w12 w13 := hw13 ▸ (Below.refl _ w12).alloc (Nat.le_refl _) _
    have HOG := Lib.hid (HOF.out.down ((HHD.out p D5).both HRS.out) hba)
    have sz : Sits w13 gz 24 #[.int .i64 0, .int .u64 0, .string ⟨#[]⟩] := by rw [hw13, hgz]; exact Sits.fresh w12 _ _
    have HSZ := Lib.hid sz
    have sa := HSAA.out.below' HOG.out.below
    have sb := HSBB.out.below' HOG.out.below
    have hB13 : Below w.heap.size w w13 := HB0.out.trans (HOG.out.below.mono HB0.out.size)
    have HB13 := Lib.hid hB13
    have a0 : w13.cell? ⟨w.heap.size, 0, none⟩ = some (.int .i64 kb) := sa.cell 0
    have a1 : w13.cell? ⟨w.heap.size, 1, none⟩ = some (.int .u64 (va : Int)) := sa.cell 1
    have a2 : w13.cell? ⟨w.heap.size, 2, none⟩ = some (.string EA) := sa.cell 2
    have b0 : w13.cell? ⟨w.heap.size + 1, 0, none⟩ = some (.int .i64 kb) := sb.cell 0
    have b1 : w13.cell? ⟨w.heap.size + 1, 1, none⟩ = some (.int .u64 (vb : Int)) := sb.cell 1
    have b2 : w13.cell? ⟨w.heap.size + 1, 2, none⟩ = some (.string EB) := sb.cell 2
    have z0 : w13.cell? ⟨gz, 0, none⟩ = some (.int .i64 0) := sz.cell 0
    have z1 : w13.cell? ⟨gz, 1, none⟩ = some (.int .u64 0) := sz.cell 1
    have z2 : w13.cell? ⟨gz, 2, none⟩ = some (.string ⟨#[]⟩) := sz.cell 2
    have k0 : w13.cell? ⟨kg, ko, none⟩ = some (.int .i64 x0) := (hB13.cell (p := ⟨kg, ko, none⟩) hkg).trans hx0c
    have k1 : w13.cell? ⟨kg, ko + 1, none⟩ = some (.int .i64 x1) := (hB13.cell (p := ⟨kg, ko + 1, none⟩) hkg).trans hx1c
    rw [hw13] at a0 a1 a2 b0 b1 b2 z0 z1 z2 k0 k1
    rw [hgz] at z0 z1 z2
    clear hba sz sa sb hB13 HOF
    go_wp2_with fail
    rw [← hw13]
    clear hw13 a0 a1 a2 b0 b1 b2 z0 z1 z2 k0 k1
    (with_reducible refine (HA.out _).mono ?_)
    rintro e w14 ⟨rfl, hb⟩
    have HOH := HOG.out.down ((HHD.out p D5).both HRS.out) hb
    have sb := HSBB.out.below' HOH.below
    have sx := (((HOH.snd HRS.out).snd ((HHC.out gx _ _).both (HHC.out gy _ _))).fst (HHC.out gx _ _)).here.2
    have sy := (((HOH.snd HRS.out).snd ((HHC.out gx _ _).both (HHC.out gy _ _))).snd (HHC.out gy _ _)).here.2
    have HF := Lib.hid (HB13.out.trans (hb.mono HB13.out.size))
    have b0 : w14.cell? ⟨w.heap.size + 1, 0, none⟩ = some (.int .i64 kb) := sb.cell 0
    have b1 : w14.cell? ⟨w.heap.size + 1, 1, none⟩ = some (.int .u64 (vb : Int)) := sb.cell 1
    have b2 : w14.cell? ⟨w.heap.size + 1, 2, none⟩ = some (.string EB) := sb.cell 2
    have xx0 : w14.cell? ⟨gx, 0, none⟩ = some (.int .i64 kb) := sx.cell 0
    have xx1 : w14.cell? ⟨gx, 1, none⟩ = some (.int .u64 (vb : Int)) := sx.cell 1
    have xx2 : w14.cell? ⟨gx, 2, none⟩ = some (.string EB) := sx.cell 2
    have yy0 : w14.cell? ⟨gy, 0, none⟩ = some (.int .i64 ((kb + 1) % 10)) := sy.cell 0
    have yy1 : w14.cell? ⟨gy, 1, none⟩ = some (.int .u64 0) := sy.cell 1
    have yy2 : w14.cell? ⟨gy, 2, none⟩ = some (.string EZ) := sy.cell 2
    clear hb HOH sb sx sy
    go_wp2
    go_ret
    exact ⟨rfl, HF.out⟩
  · have dv : ((va : Int) != (vb : Int)) = false := by simp only [bne_eq_false_iff_eq]; omega
    clear heq
    obtain ⟨w13, hw13⟩ : ∃ x, x = w12.alloc (.cells #[.int .i64 zb, .int .u64 (zv : Int), .string ED] 24) := ⟨_, rfl⟩
    obtain ⟨gz, hgz⟩ : ∃ x, x = w12.heap.size := ⟨_, rfl⟩
    have hba : Below w12.heap.size w12 w13 := hw13 ▸ (Below.refl _ w12).alloc (Nat.le_refl _) _
    have HOG := Lib.hid (HOF.out.down ((HHD.out p D5).both HRS.out) hba)
    have sz : Sits w13 gz 24 #[.int .i64 zb, .int .u64 (zv : Int), .string ED] := by rw [hw13, hgz]; exact Sits.fresh w12 _ _
    have HSZ := Lib.hid sz
    have sa := HSAA.out.below' HOG.out.below
    have sb := HSBB.out.below' HOG.out.below
    have hB13 : Below w.heap.size w w13 := HB0.out.trans (HOG.out.below.mono HB0.out.size)
    have HB13 := Lib.hid hB13
    have a0 : w13.cell? ⟨w.heap.size, 0, none⟩ = some (.int .i64 kb) := sa.cell 0
    have a1 : w13.cell? ⟨w.heap.size, 1, none⟩ = some (.int .u64 (va : Int)) := sa.cell 1
    have a2 : w13.cell? ⟨w.heap.size, 2, none⟩ = some (.string EA) := sa.cell 2
    have b0 : w13.cell? ⟨w.heap.size + 1, 0, none⟩ = some (.int .i64 kb) := sb.cell 0
    have b1 : w13.cell? ⟨w.heap.size + 1, 1, none⟩ = some (.int .u64 (vb : Int)) := sb.cell 1
    have b2 : w13.cell? ⟨w.heap.size + 1, 2, none⟩ = some (.string EB) := sb.cell 2
    have z0 : w13.cell? ⟨gz, 0, none⟩ = some (.int .i64 zb) := sz.cell 0
    have z1 : w13.cell? ⟨gz, 1, none⟩ = some (.int .u64 (zv : Int)) := sz.cell 1
    have z2 : w13.cell? ⟨gz, 2, none⟩ = some (.string ED) := sz.cell 2
    have k0 : w13.cell? ⟨kg, ko, none⟩ = some (.int .i64 x0) := (hB13.cell (p := ⟨kg, ko, none⟩) hkg).trans hx0c
    have k1 : w13.cell? ⟨kg, ko + 1, none⟩ = some (.int .i64 x1) := (hB13.cell (p := ⟨kg, ko + 1, none⟩) hkg).trans hx1c
    rw [hw13] at a0 a1 a2 b0 b1 b2 z0 z1 z2 k0 k1
    rw [hgz] at z0 z1 z2
    clear hba sz sa sb hB13 HOF
    go_wp2_with fail
    rw [← hw13]
    clear hw13 a0 a1 a2 b0 b1 b2 z0 z1 z2 k0 k1
    (with_reducible refine (HA.out _).mono ?_)
    rintro e w14 ⟨rfl, hb⟩
    have HOH := HOG.out.down ((HHD.out p D5).both HRS.out) hb
    have sb := HSBB.out.below' HOH.below
    have sx := (((HOH.snd HRS.out).snd ((HHC.out gx _ _).both (HHC.out gy _ _))).fst (HHC.out gx _ _)).here.2
    have sy := (((HOH.snd HRS.out).snd ((HHC.out gx _ _).both (HHC.out gy _ _))).snd (HHC.out gy _ _)).here.2
    have HF := Lib.hid (HB13.out.trans (hb.mono HB13.out.size))
    have b0 : w14.cell? ⟨w.heap.size + 1, 0, none⟩ = some (.int .i64 kb) := sb.cell 0
    have b1 : w14.cell? ⟨w.heap.size + 1, 1, none⟩ = some (.int .u64 (vb : Int)) := sb.cell 1
    have b2 : w14.cell? ⟨w.heap.size + 1, 2, none⟩ = some (.string EB) := sb.cell 2
    have xx0 : w14.cell? ⟨gx, 0, none⟩ = some (.int .i64 kb) := sx.cell 0
    have xx1 : w14.cell? ⟨gx, 1, none⟩ = some (.int .u64 (vb : Int)) := sx.cell 1
    have xx2 : w14.cell? ⟨gx, 2, none⟩ = some (.string EB) := sx.cell 2
    have yy0 : w14.cell? ⟨gy, 0, none⟩ = some (.int .i64 ((kb + 1) % 10)) := sy.cell 0
    have yy1 : w14.cell? ⟨gy, 1, none⟩ = some (.int .u64 0) := sy.cell 1
    have yy2 : w14.cell? ⟨gy, 2, none⟩ = some (.string EZ) := sy.cell 2
    clear hb HOH sb sx sy
    go_wp2
    go_ret
    exact ⟨rfl, HF.out⟩
end Go.Proofs.YtmlhncheodpbpaaGreat
