/- Chapter 10's alive. -/
import Derived.Test.YtmlhncheodpbpaaGreatBlkQ
namespace Go.Proofs.YtmlhncheodpbpaaGreat
open Go Go.RowKit SupP DskP RdkP
set_option maxRecDepth 100000
set_option maxHeartbeats 1000000
set_option linter.unusedSimpArgs false

def layC : Array Value := #[.int .i64 2, .int .i64 10, .int .i64 8, .int .i64 4, .int .i64 32]
def abcL : List UInt8 := [97, 98, 99] ++ List.replicate 93 0
def abcI : Im := ⟨3, 7, abcL⟩
theorem alive10_any (w : World) : Calls Tryz.prog 7 #[] w fun e w' => e = .returned (.bool true) ∧ Below w.heap.size w w' := by
  have HRD := Lib.hid ready_any
  have hok : okI abcI = true := by decide
  have hpl : placeOf alSh 3 = ((23 : Nat) : Int) := by decide
  have hst : storeD rdyD alSh 1 9 abcI = (0, putsD rdyD 1 23 (putL abcI) 2) := store_of rdy_is.on rdy_is.n rdy_is.arm rdy_is.ep (i := abcI) hok (by decide) hpl
  have hl1 : loadD rdyD alSh 3 = (⟨3, 0, List.replicate 96 0⟩, 0) := load_fresh rdy_is (by omega) (by omega)
  have hl2 : loadD (putsD rdyD 1 23 (putL abcI) 2) alSh 3 = (abcI, 0) := load_stored rdy_is.on rdy_is.n (i := abcI) hok (by decide) (by decide) hpl
  obtain ⟨D0, hD0⟩ : ∃ D, D = rdyD := ⟨_, rfl⟩
  obtain ⟨D1, hD1⟩ : ∃ D, D = putsD rdyD 1 23 (putL abcI) 2 := ⟨_, rfl⟩
  have HPD : Hid (∀ W : World, Calls Tryz.prog 12 #[.string ⟨#[97, 98, 99]⟩] W fun e w' => e = .returned (.tuple #[.string (str abcL), .int .i64 0]) ∧ Below W.heap.size W w') := Lib.hid fun W => bpad_any [97, 98, 99] (by decide) W
  have HL1 : Hid (∀ (w0 W : World) (p : Nat), Has (DP p D0) w0 W → Calls Tryz.prog 17 #[.pointer (some ⟨p, 0, none⟩), aggH alSh, .int .i64 3] W fun e w' => e = .returned (.tuple #[.agg #[.int .i64 3, .int .u64 0, .string (str (List.replicate 96 0))], .int .i64 0]) ∧ Below W.heap.size W w') := Lib.hid fun w0 W p hW => by
    have := bload_any p D0 alSh alSh_valid 3 W hW.here
    rw [hD0, hl1] at this
    exact this
  have HL2 : Hid (∀ (w0 W : World) (p : Nat), Has (DP p D1) w0 W → Calls Tryz.prog 17 #[.pointer (some ⟨p, 0, none⟩), aggH alSh, .int .i64 3] W fun e w' => e = .returned (.tuple #[.agg #[.int .i64 3, .int .u64 7, .string (str abcL)], .int .i64 0]) ∧ Below W.heap.size W w') := Lib.hid fun w0 W p hW => by
    have := bload_any p D1 alSh alSh_valid 3 W hW.here
    rw [hD1, hl2] at this
    exact this
  have HSO : Hid (∀ p : Nat, Turns (DP p D0) (DP p D1) 15 #[.pointer (some ⟨p, 0, none⟩), aggH alSh, .int .i64 1, .int .u64 9, .agg #[.int .i64 3, .int .u64 7, .string (str abcL)]] (.returned (.int .i64 0))) := Lib.hid fun p => by
    have h := bstore_any p D0 alSh alSh_valid 1 9 abcI (by decide) (by rw [hD0]; have := rdy_is.count; omega)
    have hs1 : storeD D0 alSh 1 9 abcI = (0, D1) := by rw [hD0, hD1]; exact hst
    rw [hs1] at h
    exact h
  have HHD := Lib.hid holdD
  have HHC := Lib.hid holdC
  have hPz : (str abcL).size = 96 := by decide
  obtain ⟨P, hP⟩ : ∃ P, P = str abcL := ⟨_, rfl⟩
  obtain ⟨Z, hZ⟩ : ∃ Z, Z = str (List.replicate 96 0) := ⟨_, rfl⟩
  rw [← hP] at HPD HL2 HSO hPz
  rw [← hZ] at HL1
  rw [← hD0] at HRD
  have hne : ((P.size : Int) != 96) = false := by rw [hPz]; rfl
  have HRD' : Hid (∀ W : World, Calls Tryz.prog 14 #[] W fun e w' => ∃ p q, e = .returned (.tuple #[.pointer (some ⟨p, 0, none⟩), .pointer (some ⟨q, 0, none⟩), aggH alSh, .bool true]) ∧ Has (DP p D0) W w') := Lib.hid fun W => (HRD.out W).mono fun e w' ⟨p, q, he, h⟩ => ⟨p, q, he, h.fst (HHD.out p D0)⟩
  clear hok hpl hst hl1 hl2 hD0 hD1 hP hZ hPz HRD
  unfold aggH alSh at HRD' HL1 HL2 HSO
  simp only at HRD' HL1 HL2 HSO
  go_enter Tryz.func7, Tryz.ntmps7
  go_wp2_with fail
  (with_reducible refine (HRD'.out _).mono ?_)
  rintro e w1 ⟨p, q, rfl, ho⟩
  have HO1 := Lib.hid ho
  clear ho
  obtain ⟨w2, hw2⟩ : ∃ w2, w2 = w1.alloc (.cells #[.int .i64 2, .int .i64 10, .int .i64 8, .int .i64 4, .int .i64 32] 39) := ⟨_, rfl⟩
  obtain ⟨g3, hg3⟩ : ∃ g, g = w1.heap.size := ⟨_, rfl⟩
  have HO2 : Hid (Has (Both (DP p D0) (CellAt g3 39 layC)) w w2) := Lib.hid (HO1.out.with_ (HHD.out p D0) ⟨⟨by rw [hg3]; exact Nat.le_refl _, by rw [hw2, hg3]; exact Sits.fresh w1 _ _⟩, by rw [hw2]; exact (Below.refl _ w1).alloc (Nat.le_refl _) _⟩)
  clear HO1
  go_wp2_with fail
  rw [← hw2, ← hg3]
  clear hw2 hg3
  (with_reducible refine (HPD.out _).mono ?_)
  rintro e w3 ⟨rfl, hb⟩
  have ho := HO2.out.down ((HHD.out p D0).both (HHC.out g3 _ _)) hb
  have HO3 := Lib.hid ho
  have hs := (ho.snd (HHC.out g3 _ _)).here.2
  have c0 : w3.cell? ⟨g3, 0, none⟩ = some (.int .i64 2) := hs.cell 0
  have c1 : w3.cell? ⟨g3, 1, none⟩ = some (.int .i64 10) := hs.cell 1
  have c2 : w3.cell? ⟨g3, 2, none⟩ = some (.int .i64 8) := hs.cell 2
  have c3 : w3.cell? ⟨g3, 3, none⟩ = some (.int .i64 4) := hs.cell 3
  have c4 : w3.cell? ⟨g3, 4, none⟩ = some (.int .i64 32) := hs.cell 4
  clear ho hs hb HO2
  go_wp2_with fail
  clear c0 c1 c2 c3 c4
  (with_reducible refine (HL1.out _ _ _ (HO3.out.fst (HHD.out p D0))).mono ?_)
  rintro e w4 ⟨rfl, hb⟩
  have HO4 := Lib.hid (HO3.out.down ((HHD.out p D0).both (HHC.out g3 _ _)) hb)
  clear hb HO3
  obtain ⟨w5, hw5⟩ : ∃ w5, w5 = w4.alloc (.cells #[.int .i64 3, .int .u64 0, .string Z] 24) := ⟨_, rfl⟩
  obtain ⟨g7, hg7⟩ : ∃ g, g = w4.heap.size := ⟨_, rfl⟩
  have HO5 : Hid (Has (Both (Both (DP p D0) (CellAt g3 39 layC)) (CellAt g7 24 #[.int .i64 3, .int .u64 0, .string Z])) w w5) := Lib.hid (HO4.out.with_ ((HHD.out p D0).both (HHC.out g3 _ _)) ⟨⟨by rw [hg7]; exact Nat.le_refl _, by rw [hw5, hg7]; exact Sits.fresh w4 _ _⟩, by rw [hw5]; exact (Below.refl _ w4).alloc (Nat.le_refl _) _⟩)
  clear HO4
  have hs := ((HO5.out.fst ((HHD.out p D0).both (HHC.out g3 _ _))).snd (HHC.out g3 _ _)).here.2
  have hq := (HO5.out.snd (HHC.out g7 _ _)).here.2
  rw [hw5] at hs hq
  have c0 := hs.cell 0
  have c1 := hs.cell 1
  have c2 := hs.cell 2
  have c3 := hs.cell 3
  have c4 := hs.cell 4
  have e1 := hq.cell 1
  simp only [layC, List.getElem?_toArray, List.getElem?_cons_zero, List.getElem?_cons_succ] at c0 c1 c2 c3 c4 e1
  rw [hg7] at e1
  clear hs hq
  go_wp2_with fail
  rw [← hw5, ← hg7]
  clear hw5 hg7 c0 c1 c2 c3 c4 e1
  have HA := Lib.hid ((HHD.out p D0).both (HHC.out g3 39 layC))
  have HB := Lib.hid ((HHD.out p D1).both (HHC.out g3 39 layC))
  refine (Turns.has (Turns.left HA.out (HHC.out g7 _ _) (Turns.left (HHD.out p D0) (HHC.out g3 _ _) (HSO.out p))) HO5.out).mono ?_
  rintro e w6 ⟨rfl, ho⟩
  have HO6 := Lib.hid ho
  have hs := ((ho.fst HB.out).snd (HHC.out g3 _ _)).here.2
  have c0 : w6.cell? ⟨g3, 0, none⟩ = some (.int .i64 2) := hs.cell 0
  have c1 : w6.cell? ⟨g3, 1, none⟩ = some (.int .i64 10) := hs.cell 1
  have c2 : w6.cell? ⟨g3, 2, none⟩ = some (.int .i64 8) := hs.cell 2
  have c3 : w6.cell? ⟨g3, 3, none⟩ = some (.int .i64 4) := hs.cell 3
  have c4 : w6.cell? ⟨g3, 4, none⟩ = some (.int .i64 32) := hs.cell 4
  clear ho hs HO5
  go_wp2_with fail
  clear c0 c1 c2 c3 c4
  (with_reducible refine (HL2.out _ _ _ ((HO6.out.fst HB.out).fst (HHD.out p D1))).mono ?_)
  rintro e w7 ⟨rfl, hb⟩
  have ho := HO6.out.down (HB.out.both (HHC.out g7 _ _)) hb
  have hq := (ho.snd (HHC.out g7 _ _)).here
  have hg := hq.1
  have c0 : w7.cell? ⟨g7, 0, none⟩ = some (.int .i64 3) := hq.2.cell 0
  have c1 : w7.cell? ⟨g7, 1, none⟩ = some (.int .u64 0) := hq.2.cell 1
  have c2 : w7.cell? ⟨g7, 2, none⟩ = some (.string Z) := hq.2.cell 2
  have f0 := hq.2.warm 0
  have f1 := hq.2.warm 1
  have f2 := hq.2.warm 2
  have HF := Lib.hid ho.below
  have HG := Lib.hid hg
  clear ho hq hg hb HO6
  go_wp2
  go_ret
  exact ⟨rfl, ((HF.out.setCell HG.out _).setCell HG.out _).setCell HG.out _⟩
end Go.Proofs.YtmlhncheodpbpaaGreat
