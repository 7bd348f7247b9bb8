/- Chapter 9's alive. -/
import Derived.Test.YtnhfpkbnedjmlaaSupE
namespace Go.Proofs.Ytnhfpkbnedjmlaa
open Go Go.RowKit DskP SupP
set_option maxRecDepth 100000
set_option maxHeartbeats 1000000
set_option linter.unusedSimpArgs false

def alSh : Sh := ⟨2, 10, 8, 4, 32⟩
theorem alSh_valid : Valid alSh := ⟨by decide, by decide, by decide, by decide, by decide, by decide, by decide, by decide, by decide, by decide⟩
theorem shape_any (w : World) : Calls Try.prog 13 #[] w fun e w' => e = .returned (aggH alSh) ∧ Below w.heap.size w w' := by
  go_enter Try.func13, Try.ntmps13
  go_wp2
  refine bodyPost_ret (v := aggH alSh) (by simp [results, Try.results13, go_sem, aggH, alSh]) rfl ⟨rfl, ?_⟩
  exact (Below.refl w.heap.size w).alloc (Nat.le_refl _) _
theorem alive9_any (w : World) : Calls Try.prog 6 #[] w fun e w' => e = .returned (.bool true) ∧ Below w.heap.size w w' := by
  have hd : Valid alSh := alSh_valid
  have HSH := Lib.hid shape_any
  have HLO : Hid (∀ W : World, Calls Try.prog 7 #[aggH alSh, .int .i64 2] W fun e w' => e = .returned (.tuple #[.int .i64 9, .int .i64 0]) ∧ Below W.heap.size W w') := Lib.hid fun W => slogat_ok alSh hd 2 (by omega) (by decide) W
  have HBL : Hid (∀ W : World, Calls Try.prog 8 #[aggH alSh, .int .i64 0] W fun e w' => e = .returned (.tuple #[.int .i64 17, .int .i64 0]) ∧ Below W.heap.size W w') := Lib.hid fun W => sblockat_ok alSh hd 0 (by omega) (by decide) W
  have HSZ : Hid (∀ W : World, Calls Try.prog 9 #[aggH alSh] W fun e w' => e = .returned (.int .i64 37) ∧ Below W.heap.size W w') := Lib.hid fun W => ssize_ok alSh hd W
  have HNW : Hid (∀ W : World, Calls Try.prog 14 #[.int .i64 40] W fun e w' => ∃ p, e = .returned (.pointer (some ⟨p, 0, none⟩)) ∧ Own W w' p (newD 40)) := Lib.hid fun W => own_new 40 (by omega) (by omega) W
  have HFO : Hid (∀ (w0 W : World) (p : Nat), Own w0 W p (newD 40) → Calls Try.prog 15 #[.pointer (some ⟨p, 0, none⟩), aggH alSh] W fun e w' => e = .returned (.int .i64 0) ∧ Own w0 w' p (formatD (newD 40) alSh)) := Lib.hid fun w0 W p hW =>
    (sformat_ok hW.dat rfl rfl (by decide) (by decide) alSh hd (by decide)).mono fun e w' ⟨he, hd⟩ => ⟨he, hd.own⟩
  have HLD : Hid (∀ (w0 W : World) (p : Nat), Own w0 W p (formatD (newD 40) alSh) → Calls Try.prog 16 #[.pointer (some ⟨p, 0, none⟩)] W fun e w' => e = .returned (.tuple #[aggH alSh, .int .i64 0]) ∧ Below W.heap.size W w') := Lib.hid fun w0 W p hW => by
    have hf := format_on (newD 40) alSh
    exact sload_ok hW.dat hf.1 alSh hd (format_head _ _) (by rw [hf.2.1]; decide)
  unfold aggH alSh at HSH HLO HBL HSZ HFO HLD
  simp only at HSH HLO HBL HSZ HFO HLD
  clear hd
  obtain ⟨D1, hD1⟩ : ∃ D, D = formatD (newD 40) ⟨2, 10, 8, 4, 32⟩ := ⟨_, rfl⟩
  rw [← hD1] at HFO HLD
  clear hD1
  go_enter Try.func6, Try.ntmps6
  go_wp2_with fail
  (with_reducible refine (HSH.out _).mono ?_)
  rintro e w1 ⟨rfl, hb⟩
  have HB1 := Lib.hid hb
  clear hb
  obtain ⟨wa, hwa⟩ : ∃ wa, wa = w1.alloc (.cells #[.int .i64 2, .int .i64 10, .int .i64 8, .int .i64 4, .int .i64 32] 27) := ⟨_, rfl⟩
  obtain ⟨pa, hpa⟩ : ∃ pa, pa = w1.heap.size := ⟨_, rfl⟩
  have hba : Below w1.heap.size w1 wa := by rw [hwa]; exact (Below.refl w1.heap.size w1).alloc (Nat.le_refl _) _
  have HSA : Hid (Sits wa pa 27 #[.int .i64 2, .int .i64 10, .int .i64 8, .int .i64 4, .int .i64 32]) := Lib.hid (by rw [hwa, hpa]; exact Sits.fresh w1 _ _)
  have HBA := Lib.hid (HB1.out.trans (hba.mono HB1.out.size))
  clear hba
  go_wp2_with fail
  rw [← hwa, ← hpa]
  clear hwa hpa
  (with_reducible refine (HLO.out _).mono ?_)
  rintro e w2 ⟨rfl, hb⟩
  have hs := HSA.out.below' hb
  have HS2 := Lib.hid hs
  have HB2 := Lib.hid (HBA.out.trans (hb.mono HBA.out.size))
  have c0 : w2.cell? ⟨pa, 0, none⟩ = some (.int .i64 2) := hs.cell 0
  have c1 : w2.cell? ⟨pa, 1, none⟩ = some (.int .i64 10) := hs.cell 1
  have c2 : w2.cell? ⟨pa, 2, none⟩ = some (.int .i64 8) := hs.cell 2
  have c3 : w2.cell? ⟨pa, 3, none⟩ = some (.int .i64 4) := hs.cell 3
  have c4 : w2.cell? ⟨pa, 4, none⟩ = some (.int .i64 32) := hs.cell 4
  clear hb hs
  go_wp2_with fail
  clear c0 c1 c2 c3 c4
  (with_reducible refine (HBL.out _).mono ?_)
  rintro e w3 ⟨rfl, hb⟩
  have HS3 := Lib.hid (HS2.out.below' hb)
  have HB3 := Lib.hid (HB2.out.trans (hb.mono HB2.out.size))
  clear hb
  go_wp2_with fail
  (with_reducible refine (HNW.out _).mono ?_)
  rintro e w4 ⟨p, rfl, ho⟩
  have HO4 := Lib.hid ho
  clear ho
  go_wp2_with fail
  (with_reducible refine (HSH.out _).mono ?_)
  rintro e w5 ⟨rfl, hb⟩
  have HO5 := Lib.hid (HO4.out.down hb)
  clear hb
  go_wp2_with fail
  refine (HFO.out _ _ _ HO5.out).mono ?_
  rintro e w6 ⟨rfl, ho⟩
  have HO6 := Lib.hid ho
  clear ho
  go_wp2_with fail
  refine (HLD.out _ _ _ HO6.out).mono ?_
  rintro e w7 ⟨rfl, hb⟩
  have hb7 := (HO6.out.below).trans (hb.mono HO6.out.below.size)
  have HS7 := Lib.hid (HS3.out.below' hb7)
  have HB7 := Lib.hid (HB3.out.trans (hb7.mono HB3.out.size))
  clear hb hb7
  obtain ⟨wc, hwc⟩ : ∃ wc, wc = w7.alloc (.cells #[.int .i64 2, .int .i64 10, .int .i64 8, .int .i64 4, .int .i64 32] 27) := ⟨_, rfl⟩
  obtain ⟨pc, hpc⟩ : ∃ pc, pc = w7.heap.size := ⟨_, rfl⟩
  have hbc : Below w7.heap.size w7 wc := by rw [hwc]; exact (Below.refl w7.heap.size w7).alloc (Nat.le_refl _) _
  have HSC : Hid (Sits wc pc 27 #[.int .i64 2, .int .i64 10, .int .i64 8, .int .i64 4, .int .i64 32]) := Lib.hid (by rw [hwc, hpc]; exact Sits.fresh w7 _ _)
  have HS8 := Lib.hid (HS7.out.below' hbc)
  have HB8 := Lib.hid (HB7.out.trans (hbc.mono HB7.out.size))
  clear hbc
  go_wp2_with fail
  rw [← hwc, ← hpc]
  clear hwc hpc
  (with_reducible refine (HSH.out _).mono ?_)
  rintro e w9 ⟨rfl, hb⟩
  have HS9 := Lib.hid (HS8.out.below' hb)
  have HC9 := Lib.hid (HSC.out.below' hb)
  have HB9 := Lib.hid (HB8.out.trans (hb.mono HB8.out.size))
  clear hb
  go_wp2_with fail
  (with_reducible refine (HSZ.out _).mono ?_)
  rintro e w10 ⟨rfl, hb⟩
  have hs := HS9.out.below' hb
  have hc := HC9.out.below' hb
  have HB10 := Lib.hid (HB9.out.trans (hb.mono HB9.out.size))
  clear hb
  have c0 : w10.cell? ⟨pa, 0, none⟩ = some (.int .i64 2) := hs.cell 0
  have c1 : w10.cell? ⟨pa, 1, none⟩ = some (.int .i64 10) := hs.cell 1
  have c2 : w10.cell? ⟨pa, 2, none⟩ = some (.int .i64 8) := hs.cell 2
  have c3 : w10.cell? ⟨pa, 3, none⟩ = some (.int .i64 4) := hs.cell 3
  have c4 : w10.cell? ⟨pa, 4, none⟩ = some (.int .i64 32) := hs.cell 4
  have e0 : w10.cell? ⟨pc, 0, none⟩ = some (.int .i64 2) := hc.cell 0
  have e1 : w10.cell? ⟨pc, 1, none⟩ = some (.int .i64 10) := hc.cell 1
  have e2 : w10.cell? ⟨pc, 2, none⟩ = some (.int .i64 8) := hc.cell 2
  have e3 : w10.cell? ⟨pc, 3, none⟩ = some (.int .i64 4) := hc.cell 3
  have e4 : w10.cell? ⟨pc, 4, none⟩ = some (.int .i64 32) := hc.cell 4
  clear hs hc
  go_wp2
  go_ret
  exact ⟨rfl, HB10.out⟩
end Go.Proofs.Ytnhfpkbnedjmlaa
