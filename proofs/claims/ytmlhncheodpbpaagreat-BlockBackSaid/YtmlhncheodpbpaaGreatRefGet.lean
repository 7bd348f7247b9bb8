/- The document's own blocks (commonsref8): Pad and GetBlock: each of its answers. -/
import Derived.Test.YtmlhncheodpbpaaGreatBlkC
import Derived.Test.YtmlhncheodpbpaaGreatRefBlk
import Derived.Test.YtmlhncheodpbpaaGreatRefRN
import Derived.Test.YtmlhncheodpbpaaGreatGB
namespace Go.Proofs.YtmlhncheodpbpaaGreat
open Go Go.RowKit
set_option maxRecDepth 100000
set_option maxHeartbeats 1000000
set_option linter.unusedSimpArgs false

theorem RR.only {w w' : World} {p q : Nat} {s : List UInt8} {e : Int} (h : RR w q s e) (ho : Only p w w') (hne : p ≠ q) : RR w' q s e := by
  obtain ⟨s', hs, r⟩ := h
  exact ⟨s', hs.only ho fun e => hne e.symm, r⟩
theorem rpad_any (s : List UInt8) (hs : s.length ≤ 1000000) (w : World) : Calls Tryz.prog 13 #[.string (str s)] w fun e w' => e = .returned (.tuple #[.string (str (padF s).1), .int .i64 ((padF s).2 : Int)]) ∧ Below w.heap.size w w' := by
  have hz := str_size s
  by_cases h : 96 < s.length
  · rw [show padF s = ([], 2) by unfold padF; rw [if_pos h]]
    have d1 : decide (96 < ((str s).size : Int)) = true := decide_eq_true (by omega)
    clear h hz
    go_enter Tryz.func13, Tryz.ntmps13
    go_wp2
    go_ret2
    exact ⟨rfl, Below.refl _ _⟩
  · rw [show padF s = (s ++ List.replicate (96 - s.length) 0, 0) by unfold padF; rw [if_neg h]]
    have d1 : decide (96 < ((str s).size : Int)) = false := decide_eq_false (by omega)
    obtain ⟨k, hk⟩ : ∃ k, k = 96 - s.length := ⟨_, rfl⟩
    have hk2 : (96 : Int) - ((str s).size : Int) = (k : Int) := by omega
    have hk3 : (k : Int) ≤ 96 := by omega
    obtain ⟨i0, hi, hz0, hz1, hz2⟩ := info_parts Tryz.info5
    have hmk := run_make (P := Tryz.prog) w 50 5 i0 _ Tryz.underlying50 hi hz0 .i64 .i64 k k (by omega) (by omega) (by rw [hz2]; omega) (by omega)
    simp only [Int.toNat_natCast, hz1, Nat.mul_one, show (Value.int .u8 0).cells = #[Value.int .u8 0] from rfl, byteCells_made] at hmk
    have hcv := run_text_of_row (P := Tryz.prog) (w.alloc (.cells (byteCells (List.replicate k 0)) 5)) 50 9 5 5 w.heap.size k k (List.replicate k 0) Tryz.underlying50 Tryz.underlying5 Tryz.underlying9 (Sits.fresh w _ _) (by simp)
    have hrs : (str (List.replicate k 0)).size ≤ 96 := by rw [str_size, List.length_replicate]; omega
    have hss : (str s).size ≤ 96 := by omega
    have HA := Lib.hid (str_append s (List.replicate k 0))
    rw [← hk]
    rw [← HA.out]
    clear h hz hk hi hz0 hz1 hz2 HA hs
    generalize str s = x at *
    generalize str (List.replicate k 0) = y at *
    go_enter Tryz.func13, Tryz.ntmps13
    go_wp2
    go_ret2
    exact ⟨rfl, (Below.refl _ w).alloc (Nat.le_refl _) _⟩
theorem rget_short (n : Int) (b : List UInt8) (h : b.length ≠ 128) (w : World) : Calls Tryz.prog 11 #[.int .i64 n, .string (str b)] w fun e w' => e = .returned (.tuple #[.agg #[.int .i64 0, .int .u64 0, .string ⟨#[]⟩], .int .i64 5]) ∧ Below w.heap.size w w' := by
  have d1 : (((str b).size : Int) != 128) = true := by rw [str_size]; simp only [bne_iff_ne]; omega
  clear h
  go_enter Tryz.func11, Tryz.ntmps11
  go_wp2
  refine bodyPost_ret (v := .tuple #[.agg #[.int .i64 0, .int .u64 0, .string ⟨#[]⟩], .int .i64 5]) (by simp [results, Tryz.results11, go_sem]) rfl ⟨rfl, ?_⟩
  exact (Below.refl w.heap.size w).alloc (Nat.le_refl _) _
theorem rget_zero (n : Int) (b : List UInt8) (hl : b.length = 128) (hz : b = List.replicate 128 0) (w : World) : Calls Tryz.prog 11 #[.int .i64 n, .string (str b)] w fun e w' => e = .returned (.tuple #[.agg #[.int .i64 n, .int .u64 0, .string (str (List.replicate 96 0))], .int .i64 0]) ∧ Below w.heap.size w w' := by
  have hsz : (str b).size = 128 := by rw [str_size, hl]
  have d1 : (((str b).size : Int) != 128) = false := by rw [hsz]; rfl
  obtain ⟨i0, hi, hz0, hz1, hz2⟩ := info_parts Tryz.info5
  have hmk := run_make (P := Tryz.prog) (w.alloc (.cells #[.int .i64 0, .int .u64 0, .string ⟨#[]⟩] 24)) 50 5 i0 _ Tryz.underlying50 hi hz0 .i64 .i64 128 128 (by omega) (by omega) (by rw [hz2]; omega) (by omega)
  simp only [show (128 : Int).toNat = 128 from rfl, hz1, Nat.mul_one, show (Value.int .u8 0).cells = #[Value.int .u8 0] from rfl, byteCells_made] at hmk
  have hcv := run_text_of_row (P := Tryz.prog) ((w.alloc (.cells #[.int .i64 0, .int .u64 0, .string ⟨#[]⟩] 24)).alloc (.cells (byteCells (List.replicate 128 0)) 5)) 50 9 5 5 (w.alloc (.cells #[.int .i64 0, .int .u64 0, .string ⟨#[]⟩] 24)).heap.size 128 128 (List.replicate 128 0) Tryz.underlying50 Tryz.underlying5 Tryz.underlying9 (Sits.fresh _ _ _) (by simp)
  obtain ⟨y, hy⟩ : ∃ y, y = str (List.replicate 128 0) := ⟨_, rfl⟩
  rw [← hy] at hcv
  obtain ⟨z, hzz⟩ : ∃ z, z = byteCells (List.replicate 128 0) := ⟨_, rfl⟩
  rw [← hzz] at hcv hmk
  simp only [World.size_alloc] at hcv hmk
  have hxy : ((str b).toList == y.toList) = true := eq_yes (by rw [hy, hz])
  have hx9 : (str b).extract 0 96 = str (List.replicate 96 0) := by rw [str_extract, hz]; rfl
  obtain ⟨x, hx⟩ : ∃ x, x = str b := ⟨_, rfl⟩
  rw [← hx] at hsz d1 hxy hx9 ⊢
  clear hi hz0 hz1 hz2 hl hz hx hy hzz
  have HS1 : Hid (Sits ((w.alloc (.cells #[.int .i64 0, .int .u64 0, .string ⟨#[]⟩] 24)).alloc (.cells z 5)) w.heap.size 24 #[.int .i64 0, .int .u64 0, .string ⟨#[]⟩]) := Lib.hid ((Sits.fresh w _ _).alloc _)
  have HF1 : Hid (Below w.heap.size w ((w.alloc (.cells #[.int .i64 0, .int .u64 0, .string ⟨#[]⟩] 24)).alloc (.cells z 5))) := Lib.hid (((Below.refl w.heap.size w).alloc (Nat.le_refl _) _).alloc (by simp) _)
  have hs := HS1.out
  have c0 : ((w.alloc (.cells #[.int .i64 0, .int .u64 0, .string ⟨#[]⟩] 24)).alloc (.cells z 5)).cell? ⟨w.heap.size, 0, none⟩ = some (.int .i64 0) := hs.cell 0
  have c1 : ((w.alloc (.cells #[.int .i64 0, .int .u64 0, .string ⟨#[]⟩] 24)).alloc (.cells z 5)).cell? ⟨w.heap.size, 1, none⟩ = some (.int .u64 0) := hs.cell 1
  have c2 : ((w.alloc (.cells #[.int .i64 0, .int .u64 0, .string ⟨#[]⟩] 24)).alloc (.cells z 5)).cell? ⟨w.heap.size, 2, none⟩ = some (.string ⟨#[]⟩) := hs.cell 2
  have f0 := hs.warm 0
  have f1 := hs.warm 1
  have f2 := hs.warm 2
  clear hs
  go_enter Tryz.func11, Tryz.ntmps11
  go_wp2
  refine bodyPost_ret (v := .tuple #[.agg #[.int .i64 n, .int .u64 0, .string (str (List.replicate 96 0))], .int .i64 0]) (by simp [results, Tryz.results11, go_sem, c0, c1, c2]) rfl ⟨rfl, ?_⟩
  exact ((Below.refl _ w).alloc (Nat.le_refl _) _).alloc (by simp) _
theorem rget_bad1 (n : Int) (b : List UInt8) (hl : b.length = 128) (hz : b ≠ List.replicate 128 0) (hs1 : soundB (b.take 64) = false) (w : World) : Calls Tryz.prog 11 #[.int .i64 n, .string (str b)] w fun e w' => e = .returned (.tuple #[.agg #[.int .i64 0, .int .u64 0, .string ⟨#[]⟩], .int .i64 6]) ∧ Below w.heap.size w w' := by
  have hsz : (str b).size = 128 := by rw [str_size, hl]
  have d1 : (((str b).size : Int) != 128) = false := by rw [hsz]; rfl
  obtain ⟨i0, hi, hz0, hz1, hz2⟩ := info_parts Tryz.info5
  have hmk := run_make (P := Tryz.prog) (w.alloc (.cells #[.int .i64 0, .int .u64 0, .string ⟨#[]⟩] 24)) 50 5 i0 _ Tryz.underlying50 hi hz0 .i64 .i64 128 128 (by omega) (by omega) (by rw [hz2]; omega) (by omega)
  simp only [show (128 : Int).toNat = 128 from rfl, hz1, Nat.mul_one, show (Value.int .u8 0).cells = #[Value.int .u8 0] from rfl, byteCells_made] at hmk
  have hcv := run_text_of_row (P := Tryz.prog) ((w.alloc (.cells #[.int .i64 0, .int .u64 0, .string ⟨#[]⟩] 24)).alloc (.cells (byteCells (List.replicate 128 0)) 5)) 50 9 5 5 (w.alloc (.cells #[.int .i64 0, .int .u64 0, .string ⟨#[]⟩] 24)).heap.size 128 128 (List.replicate 128 0) Tryz.underlying50 Tryz.underlying5 Tryz.underlying9 (Sits.fresh _ _ _) (by simp)
  obtain ⟨y, hy⟩ : ∃ y, y = str (List.replicate 128 0) := ⟨_, rfl⟩
  rw [← hy] at hcv
  obtain ⟨z, hzz⟩ : ∃ z, z = byteCells (List.replicate 128 0) := ⟨_, rfl⟩
  rw [← hzz] at hcv hmk
  simp only [World.size_alloc] at hcv hmk
  have hxy : ((str b).toList == y.toList) = false := eq_no (fun e => hz (str_inj (e.trans hy)))
  have HX1 : Hid ((str b).extract 0 64 = str (b.take 64)) := Lib.hid (by rw [str_extract, List.drop_zero])
  have HX2 : Hid ((str b).extract 64 128 = str (b.drop 64)) := Lib.hid (by rw [str_extract, List.take_of_length_le (by omega)])
  obtain ⟨hl1, hl2⟩ := sec_halves hl
  have hr1 := fun W => refread_all (str (b.take 64)) W (by rw [str_size]; omega)
  rw [(rd_sec hl1).1, (rd_sec hl1).2, hs1] at hr1
  simp only [Bool.false_eq_true, if_false] at hr1
  have HR1 := Lib.hid hr1
  obtain ⟨x, hx⟩ : ∃ x, x = str b := ⟨_, rfl⟩
  rw [← hx] at hsz d1 hxy HX1 HX2 ⊢
  clear hi hz0 hz1 hz2 hl hl1 hl2 hz hx hy hzz hs1 hr1
  have HS1 : Hid (Sits ((w.alloc (.cells #[.int .i64 0, .int .u64 0, .string ⟨#[]⟩] 24)).alloc (.cells z 5)) w.heap.size 24 #[.int .i64 0, .int .u64 0, .string ⟨#[]⟩]) := Lib.hid ((Sits.fresh w _ _).alloc _)
  have HF1 : Hid (Below w.heap.size w ((w.alloc (.cells #[.int .i64 0, .int .u64 0, .string ⟨#[]⟩] 24)).alloc (.cells z 5))) := Lib.hid (((Below.refl w.heap.size w).alloc (Nat.le_refl _) _).alloc (by simp) _)
  go_enter Tryz.func11, Tryz.ntmps11
  go_wp2_with fail
  rw [HX1.out]
  refine (HR1.out _).mono ?_
  rintro e w2 ⟨rfl, hb⟩
  have HS2 := Lib.hid (HS1.out.below' hb)
  have HF2 := Lib.hid (HF1.out.trans (hb.mono HF1.out.size))
  clear hb HS1 HF1 hmk hcv
  have hs := HS2.out
  have c0 : w2.cell? ⟨w.heap.size, 0, none⟩ = some (.int .i64 0) := hs.cell 0
  have c1 : w2.cell? ⟨w.heap.size, 1, none⟩ = some (.int .u64 0) := hs.cell 1
  have c2 : w2.cell? ⟨w.heap.size, 2, none⟩ = some (.string ⟨#[]⟩) := hs.cell 2
  have f0 := hs.warm 0
  have f1 := hs.warm 1
  have f2 := hs.warm 2
  clear hs
  go_wp2
  refine bodyPost_ret (v := .tuple #[.agg #[.int .i64 0, .int .u64 0, .string ⟨#[]⟩], .int .i64 6]) (by simp [results, Tryz.results11, go_sem, c0, c1, c2]) rfl ⟨rfl, ?_⟩
  exact ((HF2.out.setCell (Nat.le_refl _) _).setCell (Nat.le_refl _) _).setCell (Nat.le_refl _) _
theorem rget_bad2 (n : Int) (b : List UInt8) (hl : b.length = 128) (hz : b ≠ List.replicate 128 0) (hs1 : soundB (b.take 64) = true) (hs2 : soundB (b.drop 64) = false) (w : World) : Calls Tryz.prog 11 #[.int .i64 n, .string (str b)] w fun e w' => e = .returned (.tuple #[.agg #[.int .i64 0, .int .u64 0, .string ⟨#[]⟩], .int .i64 6]) ∧ Below w.heap.size w w' := by
  have hsz : (str b).size = 128 := by rw [str_size, hl]
  have d1 : (((str b).size : Int) != 128) = false := by rw [hsz]; rfl
  obtain ⟨i0, hi, hz0, hz1, hz2⟩ := info_parts Tryz.info5
  have hmk := run_make (P := Tryz.prog) (w.alloc (.cells #[.int .i64 0, .int .u64 0, .string ⟨#[]⟩] 24)) 50 5 i0 _ Tryz.underlying50 hi hz0 .i64 .i64 128 128 (by omega) (by omega) (by rw [hz2]; omega) (by omega)
  simp only [show (128 : Int).toNat = 128 from rfl, hz1, Nat.mul_one, show (Value.int .u8 0).cells = #[Value.int .u8 0] from rfl, byteCells_made] at hmk
  have hcv := run_text_of_row (P := Tryz.prog) ((w.alloc (.cells #[.int .i64 0, .int .u64 0, .string ⟨#[]⟩] 24)).alloc (.cells (byteCells (List.replicate 128 0)) 5)) 50 9 5 5 (w.alloc (.cells #[.int .i64 0, .int .u64 0, .string ⟨#[]⟩] 24)).heap.size 128 128 (List.replicate 128 0) Tryz.underlying50 Tryz.underlying5 Tryz.underlying9 (Sits.fresh _ _ _) (by simp)
  obtain ⟨y, hy⟩ : ∃ y, y = str (List.replicate 128 0) := ⟨_, rfl⟩
  rw [← hy] at hcv
  obtain ⟨z, hzz⟩ : ∃ z, z = byteCells (List.replicate 128 0) := ⟨_, rfl⟩
  rw [← hzz] at hcv hmk
  simp only [World.size_alloc] at hcv hmk
  have hxy : ((str b).toList == y.toList) = false := eq_no (fun e => hz (str_inj (e.trans hy)))
  have HX1 : Hid ((str b).extract 0 64 = str (b.take 64)) := Lib.hid (by rw [str_extract, List.drop_zero])
  have HX2 : Hid ((str b).extract 64 128 = str (b.drop 64)) := Lib.hid (by rw [str_extract, List.take_of_length_le (by omega)])
  obtain ⟨hl1, hl2⟩ := sec_halves hl
  have hr1 := fun W => refread_all (str (b.take 64)) W (by rw [str_size]; omega)
  rw [(rd_sec hl1).1, (rd_sec hl1).2, hs1] at hr1
  have hr2 := fun W => refread_all (str (b.drop 64)) W (by rw [str_size]; omega)
  rw [(rd_sec hl2).1, (rd_sec hl2).2, hs2] at hr2
  simp only [if_true] at hr1
  simp only [Bool.false_eq_true, if_false] at hr2
  obtain ⟨t1, ht1⟩ : ∃ t, t = (b.take 64).take 60 := ⟨_, rfl⟩
  rw [← ht1] at hr1
  have HR1 := Lib.hid hr1
  have HR2 := Lib.hid hr2
  obtain ⟨x, hx⟩ : ∃ x, x = str b := ⟨_, rfl⟩
  rw [← hx] at hsz d1 hxy HX1 HX2 ⊢
  clear hi hz0 hz1 hz2 hl hl1 hl2 hz hx hy hzz hs1 hs2 hr1 hr2 ht1
  have HS1 : Hid (Sits ((w.alloc (.cells #[.int .i64 0, .int .u64 0, .string ⟨#[]⟩] 24)).alloc (.cells z 5)) w.heap.size 24 #[.int .i64 0, .int .u64 0, .string ⟨#[]⟩]) := Lib.hid ((Sits.fresh w _ _).alloc _)
  have HF1 : Hid (Below w.heap.size w ((w.alloc (.cells #[.int .i64 0, .int .u64 0, .string ⟨#[]⟩] 24)).alloc (.cells z 5))) := Lib.hid (((Below.refl w.heap.size w).alloc (Nat.le_refl _) _).alloc (by simp) _)
  go_enter Tryz.func11, Tryz.ntmps11
  go_wp2_with fail
  rw [HX1.out]
  refine (HR1.out _).mono ?_
  rintro e w2 ⟨rfl, hb⟩
  have HS2 := Lib.hid (HS1.out.below' hb)
  have HF2 := Lib.hid (HF1.out.trans (hb.mono HF1.out.size))
  clear hb HS1 HF1 hmk hcv
  go_wp2_with fail
  rw [HX2.out]
  refine (HR2.out _).mono ?_
  rintro e w3 ⟨rfl, hb⟩
  have HS3 := Lib.hid (HS2.out.below' hb)
  have HF3 := Lib.hid (HF2.out.trans (hb.mono HF2.out.size))
  clear hb HS2 HF2
  have hs := HS3.out
  have c0 : w3.cell? ⟨w.heap.size, 0, none⟩ = some (.int .i64 0) := hs.cell 0
  have c1 : w3.cell? ⟨w.heap.size, 1, none⟩ = some (.int .u64 0) := hs.cell 1
  have c2 : w3.cell? ⟨w.heap.size, 2, none⟩ = some (.string ⟨#[]⟩) := hs.cell 2
  have f0 := hs.warm 0
  have f1 := hs.warm 1
  have f2 := hs.warm 2
  clear hs
  go_wp2
  refine bodyPost_ret (v := .tuple #[.agg #[.int .i64 0, .int .u64 0, .string ⟨#[]⟩], .int .i64 6]) (by simp [results, Tryz.results11, go_sem, c0, c1, c2]) rfl ⟨rfl, ?_⟩
  exact ((HF3.out.setCell (Nat.le_refl _) _).setCell (Nat.le_refl _) _).setCell (Nat.le_refl _) _
theorem rget_form1 (n : Int) (b : List UInt8) (hl : b.length = 128) (hz : b ≠ List.replicate 128 0) (hs1 : soundB (b.take 64) = true) (hs2 : soundB (b.drop 64) = true) (h1 : (numOf (b.take 64) : Int) ≠ n) (w : World) : Calls Tryz.prog 11 #[.int .i64 n, .string (str b)] w fun e w' => e = .returned (.tuple #[.agg #[.int .i64 0, .int .u64 0, .string ⟨#[]⟩], .int .i64 4]) ∧ Below w.heap.size w w' := by
  have hsz : (str b).size = 128 := by rw [str_size, hl]
  have d1 : (((str b).size : Int) != 128) = false := by rw [hsz]; rfl
  obtain ⟨i0, hi, hz0, hz1, hz2⟩ := info_parts Tryz.info5
  have hmk := run_make (P := Tryz.prog) (w.alloc (.cells #[.int .i64 0, .int .u64 0, .string ⟨#[]⟩] 24)) 50 5 i0 _ Tryz.underlying50 hi hz0 .i64 .i64 128 128 (by omega) (by omega) (by rw [hz2]; omega) (by omega)
  simp only [show (128 : Int).toNat = 128 from rfl, hz1, Nat.mul_one, show (Value.int .u8 0).cells = #[Value.int .u8 0] from rfl, byteCells_made] at hmk
  have hcv := run_text_of_row (P := Tryz.prog) ((w.alloc (.cells #[.int .i64 0, .int .u64 0, .string ⟨#[]⟩] 24)).alloc (.cells (byteCells (List.replicate 128 0)) 5)) 50 9 5 5 (w.alloc (.cells #[.int .i64 0, .int .u64 0, .string ⟨#[]⟩] 24)).heap.size 128 128 (List.replicate 128 0) Tryz.underlying50 Tryz.underlying5 Tryz.underlying9 (Sits.fresh _ _ _) (by simp)
  obtain ⟨y, hy⟩ : ∃ y, y = str (List.replicate 128 0) := ⟨_, rfl⟩
  rw [← hy] at hcv
  obtain ⟨z, hzz⟩ : ∃ z, z = byteCells (List.replicate 128 0) := ⟨_, rfl⟩
  rw [← hzz] at hcv hmk
  simp only [World.size_alloc] at hcv hmk
  have hxy : ((str b).toList == y.toList) = false := eq_no (fun e => hz (str_inj (e.trans hy)))
  have HX1 : Hid ((str b).extract 0 64 = str (b.take 64)) := Lib.hid (by rw [str_extract, List.drop_zero])
  have HX2 : Hid ((str b).extract 64 128 = str (b.drop 64)) := Lib.hid (by rw [str_extract, List.take_of_length_le (by omega)])
  obtain ⟨hl1, hl2⟩ := sec_halves hl
  have hr1 := fun W => refread_all (str (b.take 64)) W (by rw [str_size]; omega)
  rw [(rd_sec hl1).1, (rd_sec hl1).2, hs1] at hr1
  have hr2 := fun W => refread_all (str (b.drop 64)) W (by rw [str_size]; omega)
  rw [(rd_sec hl2).1, (rd_sec hl2).2, hs2] at hr2
  simp only [if_true] at hr1
  simp only [if_true] at hr2
  obtain ⟨t1, ht1⟩ : ∃ t, t = (b.take 64).take 60 := ⟨_, rfl⟩
  obtain ⟨t2, ht2⟩ : ∃ t, t = (b.drop 64).take 60 := ⟨_, rfl⟩
  rw [← ht1] at hr1
  rw [← ht2] at hr2
  have HR1 := Lib.hid hr1
  have HR2 := Lib.hid hr2
  have hr11 : ((t1.drop 48).take 4) = ((b.take 64).drop 48).take 4 := by rw [ht1, List.drop_take, List.take_take]; rfl
  have hr12 : (((t1.drop 48).drop 4).take 8) = ((b.take 64).drop 52).take 8 := by rw [ht1, List.drop_take, List.drop_take, List.take_take, List.drop_drop]; rfl
  have HL1 : Hid ((t1.drop 48).length = 12) := Lib.hid (by rw [ht1, List.length_drop, List.length_take, hl1]; rfl)
  have hts1 : (str t1).size = 60 := by rw [str_size, ht1, List.length_take, hl1]; rfl
  have hte1 : (str t1).extract 48 60 = str (t1.drop 48) := by rw [str_extract, List.take_of_length_le (by rw [ht1, List.length_take]; omega)]
  have hth1 : (str t1).extract 0 48 = str ((b.take 64).take 48) := by rw [str_extract, List.drop_zero, ht1, List.take_take]; rfl
  have HTE1 := Lib.hid hte1
  have HTH1 := Lib.hid hth1
  have HTS1 := Lib.hid hts1
  obtain ⟨n1, hn1⟩ : ∃ v, v = numOf (b.take 64) := ⟨_, rfl⟩
  obtain ⟨v1, hv1⟩ : ∃ v, v = verOf (b.take 64) := ⟨_, rfl⟩
  obtain ⟨x1, hX1⟩ : ∃ v, v = str ((b.take 64).take 48) := ⟨_, rfl⟩
  have hnl1 : (n1 : Int) < 4294967296 := by have := numOf_lt (b.take 64); omega
  have hu1 : IntKind.i64.wrap (n1 : Int) = (n1 : Int) := by rw [IntKind.wrap_i64]; omega
  have HU1 : Hid (unleb ((t1.drop 48).take 4) = n1) := Lib.hid (by rw [hr11, hn1]; rfl)
  have HV1 : Hid (unleb (((t1.drop 48).drop 4).take 8) = v1) := Lib.hid (by rw [hr12, hv1]; rfl)
  rw [← hX1] at HTH1
  have hr21 : ((t2.drop 48).take 4) = ((b.drop 64).drop 48).take 4 := by rw [ht2, List.drop_take, List.take_take]; rfl
  have hr22 : (((t2.drop 48).drop 4).take 8) = ((b.drop 64).drop 52).take 8 := by rw [ht2, List.drop_take, List.drop_take, List.take_take, List.drop_drop]; rfl
  have HL2 : Hid ((t2.drop 48).length = 12) := Lib.hid (by rw [ht2, List.length_drop, List.length_take, hl2]; rfl)
  have hts2 : (str t2).size = 60 := by rw [str_size, ht2, List.length_take, hl2]; rfl
  have hte2 : (str t2).extract 48 60 = str (t2.drop 48) := by rw [str_extract, List.take_of_length_le (by rw [ht2, List.length_take]; omega)]
  have hth2 : (str t2).extract 0 48 = str ((b.drop 64).take 48) := by rw [str_extract, List.drop_zero, ht2, List.take_take]; rfl
  have HTE2 := Lib.hid hte2
  have HTH2 := Lib.hid hth2
  have HTS2 := Lib.hid hts2
  obtain ⟨n2, hn2⟩ : ∃ v, v = numOf (b.drop 64) := ⟨_, rfl⟩
  obtain ⟨v2, hv2⟩ : ∃ v, v = verOf (b.drop 64) := ⟨_, rfl⟩
  obtain ⟨x2, hX2⟩ : ∃ v, v = str ((b.drop 64).take 48) := ⟨_, rfl⟩
  have hnl2 : (n2 : Int) < 4294967296 := by have := numOf_lt (b.drop 64); omega
  have hu2 : IntKind.i64.wrap (n2 : Int) = (n2 : Int) := by rw [IntKind.wrap_i64]; omega
  have HU2 : Hid (unleb ((t2.drop 48).take 4) = n2) := Lib.hid (by rw [hr21, hn2]; rfl)
  have HV2 : Hid (unleb (((t2.drop 48).drop 4).take 8) = v2) := Lib.hid (by rw [hr22, hv2]; rfl)
  rw [← hX2] at HTH2
  rw [← hn1] at h1
  have dn1 : ((n1 : Int) != n) = true := bne_iff_ne.2 h1
  clear h1
  obtain ⟨x, hx⟩ : ∃ x, x = str b := ⟨_, rfl⟩
  rw [← hx] at hsz d1 hxy HX1 HX2 ⊢
  clear hi hz0 hz1 hz2 hl hl1 hl2 hz hx hy hzz hs1 hs2 hr1 hr2 hr11 hr12 hr21 hr22 ht1 ht2 hn1 hv1 hX1 hn2 hv2 hX2 hts1 hts2 hte1 hte2 hth1 hth2
  have HS1 : Hid (Sits ((w.alloc (.cells #[.int .i64 0, .int .u64 0, .string ⟨#[]⟩] 24)).alloc (.cells z 5)) w.heap.size 24 #[.int .i64 0, .int .u64 0, .string ⟨#[]⟩]) := Lib.hid ((Sits.fresh w _ _).alloc _)
  have HF1 : Hid (Below w.heap.size w ((w.alloc (.cells #[.int .i64 0, .int .u64 0, .string ⟨#[]⟩] 24)).alloc (.cells z 5))) := Lib.hid (((Below.refl w.heap.size w).alloc (Nat.le_refl _) _).alloc (by simp) _)
  obtain ⟨T1, hT1⟩ : ∃ T, T = str t1 := ⟨_, rfl⟩
  obtain ⟨T2, hT2⟩ : ∃ T, T = str t2 := ⟨_, rfl⟩
  rw [← hT1] at HR1 HTE1 HTH1 HTS1
  rw [← hT2] at HR2 HTE2 HTH2 HTS2
  obtain ⟨l1, hL1⟩ : ∃ l, l = t1.drop 48 := ⟨_, rfl⟩
  obtain ⟨l2, hL2⟩ : ∃ l, l = t2.drop 48 := ⟨_, rfl⟩
  rw [← hL1] at HTE1 HL1 HU1 HV1
  rw [← hL2] at HTE2 HL2 HU2 HV2
  clear hT1 hT2 hL1 hL2
  have HNA : Hid (∀ p W, RR W p l1 0 → Calls Tryz.prog 29 #[.pointer (some ⟨p, 0, none⟩), .int .i64 4] W fun r w' => r = .returned (.int .u64 (n1 : Int)) ∧ RR w' p (l1.drop 4) 0 ∧ Only p W w') := Lib.hid fun p W hW => by
    have := refnum_ok p 4 l1 W hW (by omega) (by have := HL1.out; omega)
    rw [HU1.out] at this
    exact this
  have HNB : Hid (∀ p W, RR W p l2 0 → Calls Tryz.prog 29 #[.pointer (some ⟨p, 0, none⟩), .int .i64 4] W fun r w' => r = .returned (.int .u64 (n2 : Int)) ∧ RR w' p (l2.drop 4) 0 ∧ Only p W w') := Lib.hid fun p W hW => by
    have := refnum_ok p 4 l2 W hW (by omega) (by have := HL2.out; omega)
    rw [HU2.out] at this
    exact this
  have HNC : Hid (∀ p W, RR W p (l1.drop 4) 0 → Calls Tryz.prog 29 #[.pointer (some ⟨p, 0, none⟩), .int .i64 8] W fun r w' => r = .returned (.int .u64 (v1 : Int)) ∧ RR w' p ((l1.drop 4).drop 8) 0 ∧ Only p W w') := Lib.hid fun p W hW => by
    have := refnum_ok p 8 (l1.drop 4) W hW (by omega) (by have := HL1.out; rw [List.length_drop]; omega)
    rw [HV1.out] at this
    exact this
  have HND : Hid (∀ p W, RR W p (l2.drop 4) 0 → Calls Tryz.prog 29 #[.pointer (some ⟨p, 0, none⟩), .int .i64 8] W fun r w' => r = .returned (.int .u64 (v2 : Int)) ∧ RR w' p ((l2.drop 4).drop 8) 0 ∧ Only p W w') := Lib.hid fun p W hW => by
    have := refnum_ok p 8 (l2.drop 4) W hW (by omega) (by have := HL2.out; rw [List.length_drop]; omega)
    rw [HV2.out] at this
    exact this
  go_enter Tryz.func11, Tryz.ntmps11
  go_wp2_with fail
  rw [HX1.out]
  refine (HR1.out _).mono ?_
  rintro e w2 ⟨rfl, hb⟩
  have HS2 := Lib.hid (HS1.out.below' hb)
  have HF2 := Lib.hid (HF1.out.trans (hb.mono HF1.out.size))
  clear hb HS1 HF1 hmk hcv
  go_wp2_with fail
  rw [HX2.out]
  refine (HR2.out _).mono ?_
  rintro e w3 ⟨rfl, hb⟩
  have HS3 := Lib.hid (HS2.out.below' hb)
  have HF3 := Lib.hid (HF2.out.trans (hb.mono HF2.out.size))
  clear hb HS2 HF2
  have hq1 := HTS1.out
  have hq2 := HTS2.out
  go_wp2_with fail
  refine wp_region_exV (by kernel_rfl) (TwoM 3 7 8 9 w3 63 63 #[.string (str l1), .int .i64 0] #[.string (str l2), .int .i64 0])
    [[(6, none)], [(47, some 0)], [(48, some 1)], [(49, some 2)], [(8, none)], [(51, some 4)], [(52, some 5)], [(53, some 6)], [(50, some 3)], [(54, some 7)]]
    [none, none, none, none, none, none, none, none, none, some 8, some 9, none, none, none, none, none, none, none, none, none, none, none, none, none, none, none, none, none, none, none, none, none, none, none, none, none, none, none, none, none, none, none, none, none, none, none, none, some 0, some 1, some 2, some 3, some 4, some 5, some 6, some 7, none, none, none, none, none, none, none, none, none, none, none, none, none, none, none, none, none, none, none, none, none, none, none, none, none, none, none, none, none, none, none, none, none, none, none] (by kernel_rfl) (by kernel_rfl) (TwoM.start (Below.refl _ _).drew) ?_
  iterate 2
    refine exV_pure (c := ?_) (fun _ _ _ h => h.pure (by decide) (by decide) (by decide) (by decide)) ?_ ?_
    rotate_left
    · intro a' d' W hR hF
      simp only [FactsV, List.nil_append, List.cons_append, List.getD_cons_zero, List.getD_cons_succ, exists_eq_left, and_true, true_and, List.getElem?_toArray, List.getElem?_cons_zero, List.getElem?_cons_succ] at hF
      refine ⟨?_, ?_⟩
      · simp [Region.wanted, yielded, hF]
      · go_simp
        with_reducible rfl
  iterate 1
    refine exV_pure (c := ?_) (fun _ _ _ h => h.pure (by decide) (by decide) (by decide) (by decide)) ?_ ?_
    rotate_left
    · intro a' d' W hR hF
      simp only [FactsV, List.nil_append, List.cons_append, List.getD_cons_zero, List.getD_cons_succ, exists_eq_left, and_true, true_and, List.getElem?_toArray, List.getElem?_cons_zero, List.getElem?_cons_succ] at hF
      rw [HTE1.out] at hF
      refine ⟨?_, ?_⟩
      · simp [Region.wanted, yielded, hF]
      · go_simp
        with_reducible rfl
  refine exV_step (fun _ => True) (fun a' d' W hd hR hF => ?_) ?_
  · skip
    simp only [FactsV, List.nil_append, List.cons_append, List.getD_cons_zero, List.getD_cons_succ, exists_eq_left, and_true, true_and, List.getElem?_toArray, List.getElem?_cons_zero, List.getElem?_cons_succ] at hF
    exact ⟨by simp [Region.wanted, yielded, hF], .pointer (some ⟨W.heap.size, 0, none⟩), W.alloc (.cells #[.string (str l1), .int .i64 0] 63), by go_simp, trivial, hR.one hd (by decide) (by decide) (by decide)⟩
  iterate 2
    refine exV_pure (c := ?_) (fun _ _ _ h => h.pure (by decide) (by decide) (by decide) (by decide)) ?_ ?_
    rotate_left
    · intro a' d' W hR hF
      simp only [FactsV, List.nil_append, List.cons_append, List.getD_cons_zero, List.getD_cons_succ, exists_eq_left, and_true, true_and, List.getElem?_toArray, List.getElem?_cons_zero, List.getElem?_cons_succ] at hF
      refine ⟨?_, ?_⟩
      · simp [Region.wanted, yielded, hF]
      · go_simp
        with_reducible rfl
  iterate 1
    refine exV_pure (c := ?_) (fun _ _ _ h => h.pure (by decide) (by decide) (by decide) (by decide)) ?_ ?_
    rotate_left
    · intro a' d' W hR hF
      simp only [FactsV, List.nil_append, List.cons_append, List.getD_cons_zero, List.getD_cons_succ, exists_eq_left, and_true, true_and, List.getElem?_toArray, List.getElem?_cons_zero, List.getElem?_cons_succ] at hF
      rw [HTE2.out] at hF
      refine ⟨?_, ?_⟩
      · simp [Region.wanted, yielded, hF]
      · go_simp
        with_reducible rfl
  refine exV_step (fun _ => True) (fun a' d' W hd hR hF => ?_) ?_
  · skip
    simp only [FactsV, List.nil_append, List.cons_append, List.getD_cons_zero, List.getD_cons_succ, exists_eq_left, and_true, true_and, List.getElem?_toArray, List.getElem?_cons_zero, List.getElem?_cons_succ] at hF
    exact ⟨by simp [Region.wanted, yielded, hF], .pointer (some ⟨W.heap.size, 0, none⟩), W.alloc (.cells #[.string (str l2), .int .i64 0] 63), by go_simp, trivial, hR.two hd (by decide) (by decide) (by decide)⟩
  refine exV_hand (fun _ => True) (fun a' d' W hd hR hF => ?_) ?_
  · skip
    simp only [FactsV, List.nil_append, List.cons_append, List.getD_cons_zero, List.getD_cons_succ, exists_eq_left, and_true, true_and, List.getElem?_toArray, List.getElem?_cons_zero, List.getElem?_cons_succ] at hF
    obtain ⟨v, hv, h1⟩ := hF
    exact ⟨by simp [Region.wanted, yielded], v, by simp [execOp, Act.eval, hv], trivial, hR.hand1 h1 (by decide) (by decide) (by decide)⟩
  refine exV_hand (fun _ => True) (fun a' d' W hd hR hF => ?_) ?_
  · skip
    simp only [FactsV, List.nil_append, List.cons_append, List.getD_cons_zero, List.getD_cons_succ, exists_eq_left, and_true, true_and, List.getElem?_toArray, List.getElem?_cons_zero, List.getElem?_cons_succ] at hF
    obtain ⟨v, hv, h1⟩ := hF
    exact ⟨by simp [Region.wanted, yielded], v, by simp [execOp, Act.eval, hv], trivial, hR.hand2 h1 (by decide) (by decide) (by decide)⟩
  show ∀ d W, _ → _ → _
  intro d w4 hA2 hR2
  simp only [FinV, List.nil_append, List.cons_append, List.getD_cons_zero, List.getD_cons_succ, forall_eq, forall_const, true_implies, forall_exists_index, and_imp, Nat.reduceAdd, Array.getD_eq_getD_getElem?, List.getElem?_toArray, List.getElem?_cons_zero, List.getElem?_cons_succ, Option.getD_some]
  clear hA2
  intro vp h8 vq h9 _ _ _ va _ _ _ _ vb _
  obtain ⟨p, rfl, hsp, hp⟩ := hR2.fst _ (hR2.hi _ h8)
  obtain ⟨q, rfl, hsq, hq⟩ := hR2.snd _ (hR2.hj _ h9)
  have hpq : p ≠ q := fun e => hR2.ne _ _ (hR2.hi _ h8) (hR2.hj _ h9) (by rw [e])
  have hlt3 : w.heap.size < w3.heap.size := HS3.out.lt
  have HP4 : Hid (RR w4 p l1 0) := Lib.hid ⟨l1, hsp, fun _ => rfl, by have := HL1.out; omega⟩
  have HQ4 : Hid (RR w4 q l2 0) := Lib.hid ⟨l2, hsq, fun _ => rfl, by have := HL2.out; omega⟩
  have HS4 := Lib.hid (HS3.out.below' hR2.low)
  have HF4 := Lib.hid (HF3.out.trans (hR2.low.mono HF3.out.size))
  have hp0 : w.heap.size < p := by omega
  have hq0 : w.heap.size < q := by omega
  clear h8 h9 hsp hsq hp hq hR2 hlt3 HS3 HF3
  go_wp2_with fail
  (with_reducible refine (HNA.out _ _ HP4.out).mono ?_)
  rintro e w5 ⟨rfl, hr, ho⟩
  have HP5 := Lib.hid hr
  have HQ5 := Lib.hid (HQ4.out.only ho hpq)
  have HS5 := Lib.hid (HS4.out.only ho (by omega))
  have HF5 := Lib.hid (Below.then_only HF4.out ho (by omega) HF4.out.size)
  clear hr ho HP4 HQ4 HS4 HF4
  go_wp2_with fail
  (with_reducible refine (HNB.out _ _ HQ5.out).mono ?_)
  rintro e w6 ⟨rfl, hr, ho⟩
  have HQ6 := Lib.hid hr
  have HP6 := Lib.hid (HP5.out.only ho (fun e => hpq e.symm))
  have HS6 := Lib.hid (HS5.out.only ho (by omega))
  have HF6 := Lib.hid (Below.then_only HF5.out ho (by omega) HF5.out.size)
  clear hr ho HQ5 HP5 HS5 HF5
  go_wp2_with fail
  (with_reducible refine (HNC.out _ _ HP6.out).mono ?_)
  rintro e w7 ⟨rfl, hr, ho⟩
  have HP7 := Lib.hid hr
  have HQ7 := Lib.hid (HQ6.out.only ho hpq)
  have HS7 := Lib.hid (HS6.out.only ho (by omega))
  have HF7 := Lib.hid (Below.then_only HF6.out ho (by omega) HF6.out.size)
  clear hr ho HP6 HQ6 HS6 HF6
  go_wp2_with fail
  (with_reducible refine (HND.out _ _ HQ7.out).mono ?_)
  rintro e w8 ⟨rfl, hr, ho⟩
  have HQ8 := Lib.hid hr
  have HP8 := Lib.hid (HP7.out.only ho (fun e => hpq e.symm))
  have HS8 := Lib.hid (HS7.out.only ho (by omega))
  have HF8 := Lib.hid (Below.then_only HF7.out ho (by omega) HF7.out.size)
  clear hr ho HQ7 HP7 HS7 HF7
  have hs := HS8.out
  have c0 : w8.cell? ⟨w.heap.size, 0, none⟩ = some (.int .i64 0) := hs.cell 0
  have c1 : w8.cell? ⟨w.heap.size, 1, none⟩ = some (.int .u64 0) := hs.cell 1
  have c2 : w8.cell? ⟨w.heap.size, 2, none⟩ = some (.string ⟨#[]⟩) := hs.cell 2
  have f0 := hs.warm 0
  have f1 := hs.warm 1
  have f2 := hs.warm 2
  clear hs
  go_wp2
  refine bodyPost_ret (v := .tuple #[.agg #[.int .i64 0, .int .u64 0, .string ⟨#[]⟩], .int .i64 4]) (by simp [results, Tryz.results11, go_sem, c0, c1, c2]) rfl ⟨rfl, ?_⟩
  exact ((HF8.out.setCell (Nat.le_refl _) _).setCell (Nat.le_refl _) _).setCell (Nat.le_refl _) _
theorem rget_form2 (n : Int) (b : List UInt8) (hl : b.length = 128) (hz : b ≠ List.replicate 128 0) (hs1 : soundB (b.take 64) = true) (hs2 : soundB (b.drop 64) = true) (h1 : (numOf (b.take 64) : Int) = n) (h2 : (numOf (b.drop 64) : Int) ≠ n) (w : World) : Calls Tryz.prog 11 #[.int .i64 n, .string (str b)] w fun e w' => e = .returned (.tuple #[.agg #[.int .i64 0, .int .u64 0, .string ⟨#[]⟩], .int .i64 4]) ∧ Below w.heap.size w w' := by
  have hsz : (str b).size = 128 := by rw [str_size, hl]
  have d1 : (((str b).size : Int) != 128) = false := by rw [hsz]; rfl
  obtain ⟨i0, hi, hz0, hz1, hz2⟩ := info_parts Tryz.info5
  have hmk := run_make (P := Tryz.prog) (w.alloc (.cells #[.int .i64 0, .int .u64 0, .string ⟨#[]⟩] 24)) 50 5 i0 _ Tryz.underlying50 hi hz0 .i64 .i64 128 128 (by omega) (by omega) (by rw [hz2]; omega) (by omega)
  simp only [show (128 : Int).toNat = 128 from rfl, hz1, Nat.mul_one, show (Value.int .u8 0).cells = #[Value.int .u8 0] from rfl, byteCells_made] at hmk
  have hcv := run_text_of_row (P := Tryz.prog) ((w.alloc (.cells #[.int .i64 0, .int .u64 0, .string ⟨#[]⟩] 24)).alloc (.cells (byteCells (List.replicate 128 0)) 5)) 50 9 5 5 (w.alloc (.cells #[.int .i64 0, .int .u64 0, .string ⟨#[]⟩] 24)).heap.size 128 128 (List.replicate 128 0) Tryz.underlying50 Tryz.underlying5 Tryz.underlying9 (Sits.fresh _ _ _) (by simp)
  obtain ⟨y, hy⟩ : ∃ y, y = str (List.replicate 128 0) := ⟨_, rfl⟩
  rw [← hy] at hcv
  obtain ⟨z, hzz⟩ : ∃ z, z = byteCells (List.replicate 128 0) := ⟨_, rfl⟩
  rw [← hzz] at hcv hmk
  simp only [World.size_alloc] at hcv hmk
  have hxy : ((str b).toList == y.toList) = false := eq_no (fun e => hz (str_inj (e.trans hy)))
  have HX1 : Hid ((str b).extract 0 64 = str (b.take 64)) := Lib.hid (by rw [str_extract, List.drop_zero])
  have HX2 : Hid ((str b).extract 64 128 = str (b.drop 64)) := Lib.hid (by rw [str_extract, List.take_of_length_le (by omega)])
  obtain ⟨hl1, hl2⟩ := sec_halves hl
  have hr1 := fun W => refread_all (str (b.take 64)) W (by rw [str_size]; omega)
  rw [(rd_sec hl1).1, (rd_sec hl1).2, hs1] at hr1
  have hr2 := fun W => refread_all (str (b.drop 64)) W (by rw [str_size]; omega)
  rw [(rd_sec hl2).1, (rd_sec hl2).2, hs2] at hr2
  simp only [if_true] at hr1
  simp only [if_true] at hr2
  obtain ⟨t1, ht1⟩ : ∃ t, t = (b.take 64).take 60 := ⟨_, rfl⟩
  obtain ⟨t2, ht2⟩ : ∃ t, t = (b.drop 64).take 60 := ⟨_, rfl⟩
  rw [← ht1] at hr1
  rw [← ht2] at hr2
  have HR1 := Lib.hid hr1
  have HR2 := Lib.hid hr2
  have hr11 : ((t1.drop 48).take 4) = ((b.take 64).drop 48).take 4 := by rw [ht1, List.drop_take, List.take_take]; rfl
  have hr12 : (((t1.drop 48).drop 4).take 8) = ((b.take 64).drop 52).take 8 := by rw [ht1, List.drop_take, List.drop_take, List.take_take, List.drop_drop]; rfl
  have HL1 : Hid ((t1.drop 48).length = 12) := Lib.hid (by rw [ht1, List.length_drop, List.length_take, hl1]; rfl)
  have hts1 : (str t1).size = 60 := by rw [str_size, ht1, List.length_take, hl1]; rfl
  have hte1 : (str t1).extract 48 60 = str (t1.drop 48) := by rw [str_extract, List.take_of_length_le (by rw [ht1, List.length_take]; omega)]
  have hth1 : (str t1).extract 0 48 = str ((b.take 64).take 48) := by rw [str_extract, List.drop_zero, ht1, List.take_take]; rfl
  have HTE1 := Lib.hid hte1
  have HTH1 := Lib.hid hth1
  have HTS1 := Lib.hid hts1
  obtain ⟨n1, hn1⟩ : ∃ v, v = numOf (b.take 64) := ⟨_, rfl⟩
  obtain ⟨v1, hv1⟩ : ∃ v, v = verOf (b.take 64) := ⟨_, rfl⟩
  obtain ⟨x1, hX1⟩ : ∃ v, v = str ((b.take 64).take 48) := ⟨_, rfl⟩
  have hnl1 : (n1 : Int) < 4294967296 := by have := numOf_lt (b.take 64); omega
  have hu1 : IntKind.i64.wrap (n1 : Int) = (n1 : Int) := by rw [IntKind.wrap_i64]; omega
  have HU1 : Hid (unleb ((t1.drop 48).take 4) = n1) := Lib.hid (by rw [hr11, hn1]; rfl)
  have HV1 : Hid (unleb (((t1.drop 48).drop 4).take 8) = v1) := Lib.hid (by rw [hr12, hv1]; rfl)
  rw [← hX1] at HTH1
  have hr21 : ((t2.drop 48).take 4) = ((b.drop 64).drop 48).take 4 := by rw [ht2, List.drop_take, List.take_take]; rfl
  have hr22 : (((t2.drop 48).drop 4).take 8) = ((b.drop 64).drop 52).take 8 := by rw [ht2, List.drop_take, List.drop_take, List.take_take, List.drop_drop]; rfl
  have HL2 : Hid ((t2.drop 48).length = 12) := Lib.hid (by rw [ht2, List.length_drop, List.length_take, hl2]; rfl)
  have hts2 : (str t2).size = 60 := by rw [str_size, ht2, List.length_take, hl2]; rfl
  have hte2 : (str t2).extract 48 60 = str (t2.drop 48) := by rw [str_extract, List.take_of_length_le (by rw [ht2, List.length_take]; omega)]
  have hth2 : (str t2).extract 0 48 = str ((b.drop 64).take 48) := by rw [str_extract, List.drop_zero, ht2, List.take_take]; rfl
  have HTE2 := Lib.hid hte2
  have HTH2 := Lib.hid hth2
  have HTS2 := Lib.hid hts2
  obtain ⟨n2, hn2⟩ : ∃ v, v = numOf (b.drop 64) := ⟨_, rfl⟩
  obtain ⟨v2, hv2⟩ : ∃ v, v = verOf (b.drop 64) := ⟨_, rfl⟩
  obtain ⟨x2, hX2⟩ : ∃ v, v = str ((b.drop 64).take 48) := ⟨_, rfl⟩
  have hnl2 : (n2 : Int) < 4294967296 := by have := numOf_lt (b.drop 64); omega
  have hu2 : IntKind.i64.wrap (n2 : Int) = (n2 : Int) := by rw [IntKind.wrap_i64]; omega
  have HU2 : Hid (unleb ((t2.drop 48).take 4) = n2) := Lib.hid (by rw [hr21, hn2]; rfl)
  have HV2 : Hid (unleb (((t2.drop 48).drop 4).take 8) = v2) := Lib.hid (by rw [hr22, hv2]; rfl)
  rw [← hX2] at HTH2
  rw [← hn1] at h1
  have dn1 : ((n1 : Int) != n) = false := by simp [h1]
  rw [← hn2] at h2
  have dn2 : ((n2 : Int) != n) = true := bne_iff_ne.2 h2
  clear h1 h2
  obtain ⟨x, hx⟩ : ∃ x, x = str b := ⟨_, rfl⟩
  rw [← hx] at hsz d1 hxy HX1 HX2 ⊢
  clear hi hz0 hz1 hz2 hl hl1 hl2 hz hx hy hzz hs1 hs2 hr1 hr2 hr11 hr12 hr21 hr22 ht1 ht2 hn1 hv1 hX1 hn2 hv2 hX2 hts1 hts2 hte1 hte2 hth1 hth2
  have HS1 : Hid (Sits ((w.alloc (.cells #[.int .i64 0, .int .u64 0, .string ⟨#[]⟩] 24)).alloc (.cells z 5)) w.heap.size 24 #[.int .i64 0, .int .u64 0, .string ⟨#[]⟩]) := Lib.hid ((Sits.fresh w _ _).alloc _)
  have HF1 : Hid (Below w.heap.size w ((w.alloc (.cells #[.int .i64 0, .int .u64 0, .string ⟨#[]⟩] 24)).alloc (.cells z 5))) := Lib.hid (((Below.refl w.heap.size w).alloc (Nat.le_refl _) _).alloc (by simp) _)
  obtain ⟨T1, hT1⟩ : ∃ T, T = str t1 := ⟨_, rfl⟩
  obtain ⟨T2, hT2⟩ : ∃ T, T = str t2 := ⟨_, rfl⟩
  rw [← hT1] at HR1 HTE1 HTH1 HTS1
  rw [← hT2] at HR2 HTE2 HTH2 HTS2
  obtain ⟨l1, hL1⟩ : ∃ l, l = t1.drop 48 := ⟨_, rfl⟩
  obtain ⟨l2, hL2⟩ : ∃ l, l = t2.drop 48 := ⟨_, rfl⟩
  rw [← hL1] at HTE1 HL1 HU1 HV1
  rw [← hL2] at HTE2 HL2 HU2 HV2
  clear hT1 hT2 hL1 hL2
  have HNA : Hid (∀ p W, RR W p l1 0 → Calls Tryz.prog 29 #[.pointer (some ⟨p, 0, none⟩), .int .i64 4] W fun r w' => r = .returned (.int .u64 (n1 : Int)) ∧ RR w' p (l1.drop 4) 0 ∧ Only p W w') := Lib.hid fun p W hW => by
    have := refnum_ok p 4 l1 W hW (by omega) (by have := HL1.out; omega)
    rw [HU1.out] at this
    exact this
  have HNB : Hid (∀ p W, RR W p l2 0 → Calls Tryz.prog 29 #[.pointer (some ⟨p, 0, none⟩), .int .i64 4] W fun r w' => r = .returned (.int .u64 (n2 : Int)) ∧ RR w' p (l2.drop 4) 0 ∧ Only p W w') := Lib.hid fun p W hW => by
    have := refnum_ok p 4 l2 W hW (by omega) (by have := HL2.out; omega)
    rw [HU2.out] at this
    exact this
  have HNC : Hid (∀ p W, RR W p (l1.drop 4) 0 → Calls Tryz.prog 29 #[.pointer (some ⟨p, 0, none⟩), .int .i64 8] W fun r w' => r = .returned (.int .u64 (v1 : Int)) ∧ RR w' p ((l1.drop 4).drop 8) 0 ∧ Only p W w') := Lib.hid fun p W hW => by
    have := refnum_ok p 8 (l1.drop 4) W hW (by omega) (by have := HL1.out; rw [List.length_drop]; omega)
    rw [HV1.out] at this
    exact this
  have HND : Hid (∀ p W, RR W p (l2.drop 4) 0 → Calls Tryz.prog 29 #[.pointer (some ⟨p, 0, none⟩), .int .i64 8] W fun r w' => r = .returned (.int .u64 (v2 : Int)) ∧ RR w' p ((l2.drop 4).drop 8) 0 ∧ Only p W w') := Lib.hid fun p W hW => by
    have := refnum_ok p 8 (l2.drop 4) W hW (by omega) (by have := HL2.out; rw [List.length_drop]; omega)
    rw [HV2.out] at this
    exact this
  go_enter Tryz.func11, Tryz.ntmps11
  go_wp2_with fail
  rw [HX1.out]
  refine (HR1.out _).mono ?_
  rintro e w2 ⟨rfl, hb⟩
  have HS2 := Lib.hid (HS1.out.below' hb)
  have HF2 := Lib.hid (HF1.out.trans (hb.mono HF1.out.size))
  clear hb HS1 HF1 hmk hcv
  go_wp2_with fail
  rw [HX2.out]
  refine (HR2.out _).mono ?_
  rintro e w3 ⟨rfl, hb⟩
  have HS3 := Lib.hid (HS2.out.below' hb)
  have HF3 := Lib.hid (HF2.out.trans (hb.mono HF2.out.size))
  clear hb HS2 HF2
  have hq1 := HTS1.out
  have hq2 := HTS2.out
  go_wp2_with fail
  refine wp_region_exV (by kernel_rfl) (TwoM 3 7 8 9 w3 63 63 #[.string (str l1), .int .i64 0] #[.string (str l2), .int .i64 0])
    [[(6, none)], [(47, some 0)], [(48, some 1)], [(49, some 2)], [(8, none)], [(51, some 4)], [(52, some 5)], [(53, some 6)], [(50, some 3)], [(54, some 7)]]
    [none, none, none, none, none, none, none, none, none, some 8, some 9, none, none, none, none, none, none, none, none, none, none, none, none, none, none, none, none, none, none, none, none, none, none, none, none, none, none, none, none, none, none, none, none, none, none, none, none, some 0, some 1, some 2, some 3, some 4, some 5, some 6, some 7, none, none, none, none, none, none, none, none, none, none, none, none, none, none, none, none, none, none, none, none, none, none, none, none, none, none, none, none, none, none, none, none, none, none, none] (by kernel_rfl) (by kernel_rfl) (TwoM.start (Below.refl _ _).drew) ?_
  iterate 2
    refine exV_pure (c := ?_) (fun _ _ _ h => h.pure (by decide) (by decide) (by decide) (by decide)) ?_ ?_
    rotate_left
    · intro a' d' W hR hF
      simp only [FactsV, List.nil_append, List.cons_append, List.getD_cons_zero, List.getD_cons_succ, exists_eq_left, and_true, true_and, List.getElem?_toArray, List.getElem?_cons_zero, List.getElem?_cons_succ] at hF
      refine ⟨?_, ?_⟩
      · simp [Region.wanted, yielded, hF]
      · go_simp
        with_reducible rfl
  iterate 1
    refine exV_pure (c := ?_) (fun _ _ _ h => h.pure (by decide) (by decide) (by decide) (by decide)) ?_ ?_
    rotate_left
    · intro a' d' W hR hF
      simp only [FactsV, List.nil_append, List.cons_append, List.getD_cons_zero, List.getD_cons_succ, exists_eq_left, and_true, true_and, List.getElem?_toArray, List.getElem?_cons_zero, List.getElem?_cons_succ] at hF
      rw [HTE1.out] at hF
      refine ⟨?_, ?_⟩
      · simp [Region.wanted, yielded, hF]
      · go_simp
        with_reducible rfl
  refine exV_step (fun _ => True) (fun a' d' W hd hR hF => ?_) ?_
  · skip
    simp only [FactsV, List.nil_append, List.cons_append, List.getD_cons_zero, List.getD_cons_succ, exists_eq_left, and_true, true_and, List.getElem?_toArray, List.getElem?_cons_zero, List.getElem?_cons_succ] at hF
    exact ⟨by simp [Region.wanted, yielded, hF], .pointer (some ⟨W.heap.size, 0, none⟩), W.alloc (.cells #[.string (str l1), .int .i64 0] 63), by go_simp, trivial, hR.one hd (by decide) (by decide) (by decide)⟩
  iterate 2
    refine exV_pure (c := ?_) (fun _ _ _ h => h.pure (by decide) (by decide) (by decide) (by decide)) ?_ ?_
    rotate_left
    · intro a' d' W hR hF
      simp only [FactsV, List.nil_append, List.cons_append, List.getD_cons_zero, List.getD_cons_succ, exists_eq_left, and_true, true_and, List.getElem?_toArray, List.getElem?_cons_zero, List.getElem?_cons_succ] at hF
      refine ⟨?_, ?_⟩
      · simp [Region.wanted, yielded, hF]
      · go_simp
        with_reducible rfl
  iterate 1
    refine exV_pure (c := ?_) (fun _ _ _ h => h.pure (by decide) (by decide) (by decide) (by decide)) ?_ ?_
    rotate_left
    · intro a' d' W hR hF
      simp only [FactsV, List.nil_append, List.cons_append, List.getD_cons_zero, List.getD_cons_succ, exists_eq_left, and_true, true_and, List.getElem?_toArray, List.getElem?_cons_zero, List.getElem?_cons_succ] at hF
      rw [HTE2.out] at hF
      refine ⟨?_, ?_⟩
      · simp [Region.wanted, yielded, hF]
      · go_simp
        with_reducible rfl
  refine exV_step (fun _ => True) (fun a' d' W hd hR hF => ?_) ?_
  · skip
    simp only [FactsV, List.nil_append, List.cons_append, List.getD_cons_zero, List.getD_cons_succ, exists_eq_left, and_true, true_and, List.getElem?_toArray, List.getElem?_cons_zero, List.getElem?_cons_succ] at hF
    exact ⟨by simp [Region.wanted, yielded, hF], .pointer (some ⟨W.heap.size, 0, none⟩), W.alloc (.cells #[.string (str l2), .int .i64 0] 63), by go_simp, trivial, hR.two hd (by decide) (by decide) (by decide)⟩
  refine exV_hand (fun _ => True) (fun a' d' W hd hR hF => ?_) ?_
  · skip
    simp only [FactsV, List.nil_append, List.cons_append, List.getD_cons_zero, List.getD_cons_succ, exists_eq_left, and_true, true_and, List.getElem?_toArray, List.getElem?_cons_zero, List.getElem?_cons_succ] at hF
    obtain ⟨v, hv, h1⟩ := hF
    exact ⟨by simp [Region.wanted, yielded], v, by simp [execOp, Act.eval, hv], trivial, hR.hand1 h1 (by decide) (by decide) (by decide)⟩
  refine exV_hand (fun _ => True) (fun a' d' W hd hR hF => ?_) ?_
  · skip
    simp only [FactsV, List.nil_append, List.cons_append, List.getD_cons_zero, List.getD_cons_succ, exists_eq_left, and_true, true_and, List.getElem?_toArray, List.getElem?_cons_zero, List.getElem?_cons_succ] at hF
    obtain ⟨v, hv, h1⟩ := hF
    exact ⟨by simp [Region.wanted, yielded], v, by simp [execOp, Act.eval, hv], trivial, hR.hand2 h1 (by decide) (by decide) (by decide)⟩
  show ∀ d W, _ → _ → _
  intro d w4 hA2 hR2
  simp only [FinV, List.nil_append, List.cons_append, List.getD_cons_zero, List.getD_cons_succ, forall_eq, forall_const, true_implies, forall_exists_index, and_imp, Nat.reduceAdd, Array.getD_eq_getD_getElem?, List.getElem?_toArray, List.getElem?_cons_zero, List.getElem?_cons_succ, Option.getD_some]
  clear hA2
  intro vp h8 vq h9 _ _ _ va _ _ _ _ vb _
  obtain ⟨p, rfl, hsp, hp⟩ := hR2.fst _ (hR2.hi _ h8)
  obtain ⟨q, rfl, hsq, hq⟩ := hR2.snd _ (hR2.hj _ h9)
  have hpq : p ≠ q := fun e => hR2.ne _ _ (hR2.hi _ h8) (hR2.hj _ h9) (by rw [e])
  have hlt3 : w.heap.size < w3.heap.size := HS3.out.lt
  have HP4 : Hid (RR w4 p l1 0) := Lib.hid ⟨l1, hsp, fun _ => rfl, by have := HL1.out; omega⟩
  have HQ4 : Hid (RR w4 q l2 0) := Lib.hid ⟨l2, hsq, fun _ => rfl, by have := HL2.out; omega⟩
  have HS4 := Lib.hid (HS3.out.below' hR2.low)
  have HF4 := Lib.hid (HF3.out.trans (hR2.low.mono HF3.out.size))
  have hp0 : w.heap.size < p := by omega
  have hq0 : w.heap.size < q := by omega
  clear h8 h9 hsp hsq hp hq hR2 hlt3 HS3 HF3
  go_wp2_with fail
  (with_reducible refine (HNA.out _ _ HP4.out).mono ?_)
  rintro e w5 ⟨rfl, hr, ho⟩
  have HP5 := Lib.hid hr
  have HQ5 := Lib.hid (HQ4.out.only ho hpq)
  have HS5 := Lib.hid (HS4.out.only ho (by omega))
  have HF5 := Lib.hid (Below.then_only HF4.out ho (by omega) HF4.out.size)
  clear hr ho HP4 HQ4 HS4 HF4
  go_wp2_with fail
  (with_reducible refine (HNB.out _ _ HQ5.out).mono ?_)
  rintro e w6 ⟨rfl, hr, ho⟩
  have HQ6 := Lib.hid hr
  have HP6 := Lib.hid (HP5.out.only ho (fun e => hpq e.symm))
  have HS6 := Lib.hid (HS5.out.only ho (by omega))
  have HF6 := Lib.hid (Below.then_only HF5.out ho (by omega) HF5.out.size)
  clear hr ho HQ5 HP5 HS5 HF5
  go_wp2_with fail
  (with_reducible refine (HNC.out _ _ HP6.out).mono ?_)
  rintro e w7 ⟨rfl, hr, ho⟩
  have HP7 := Lib.hid hr
  have HQ7 := Lib.hid (HQ6.out.only ho hpq)
  have HS7 := Lib.hid (HS6.out.only ho (by omega))
  have HF7 := Lib.hid (Below.then_only HF6.out ho (by omega) HF6.out.size)
  clear hr ho HP6 HQ6 HS6 HF6
  go_wp2_with fail
  (with_reducible refine (HND.out _ _ HQ7.out).mono ?_)
  rintro e w8 ⟨rfl, hr, ho⟩
  have HQ8 := Lib.hid hr
  have HP8 := Lib.hid (HP7.out.only ho (fun e => hpq e.symm))
  have HS8 := Lib.hid (HS7.out.only ho (by omega))
  have HF8 := Lib.hid (Below.then_only HF7.out ho (by omega) HF7.out.size)
  clear hr ho HQ7 HP7 HS7 HF7
  have hs := HS8.out
  have c0 : w8.cell? ⟨w.heap.size, 0, none⟩ = some (.int .i64 0) := hs.cell 0
  have c1 : w8.cell? ⟨w.heap.size, 1, none⟩ = some (.int .u64 0) := hs.cell 1
  have c2 : w8.cell? ⟨w.heap.size, 2, none⟩ = some (.string ⟨#[]⟩) := hs.cell 2
  have f0 := hs.warm 0
  have f1 := hs.warm 1
  have f2 := hs.warm 2
  clear hs
  go_wp2
  refine bodyPost_ret (v := .tuple #[.agg #[.int .i64 0, .int .u64 0, .string ⟨#[]⟩], .int .i64 4]) (by simp [results, Tryz.results11, go_sem, c0, c1, c2]) rfl ⟨rfl, ?_⟩
  exact ((HF8.out.setCell (Nat.le_refl _) _).setCell (Nat.le_refl _) _).setCell (Nat.le_refl _) _
theorem rget_form4 (n : Int) (b : List UInt8) (hl : b.length = 128) (hz : b ≠ List.replicate 128 0) (hs1 : soundB (b.take 64) = true) (hs2 : soundB (b.drop 64) = true) (h1 : (numOf (b.take 64) : Int) = n) (h2 : (numOf (b.drop 64) : Int) = n) (h3 : 4096 ≤ n) (w : World) : Calls Tryz.prog 11 #[.int .i64 n, .string (str b)] w fun e w' => e = .returned (.tuple #[.agg #[.int .i64 0, .int .u64 0, .string ⟨#[]⟩], .int .i64 4]) ∧ Below w.heap.size w w' := by
  have hsz : (str b).size = 128 := by rw [str_size, hl]
  have d1 : (((str b).size : Int) != 128) = false := by rw [hsz]; rfl
  obtain ⟨i0, hi, hz0, hz1, hz2⟩ := info_parts Tryz.info5
  have hmk := run_make (P := Tryz.prog) (w.alloc (.cells #[.int .i64 0, .int .u64 0, .string ⟨#[]⟩] 24)) 50 5 i0 _ Tryz.underlying50 hi hz0 .i64 .i64 128 128 (by omega) (by omega) (by rw [hz2]; omega) (by omega)
  simp only [show (128 : Int).toNat = 128 from rfl, hz1, Nat.mul_one, show (Value.int .u8 0).cells = #[Value.int .u8 0] from rfl, byteCells_made] at hmk
  have hcv := run_text_of_row (P := Tryz.prog) ((w.alloc (.cells #[.int .i64 0, .int .u64 0, .string ⟨#[]⟩] 24)).alloc (.cells (byteCells (List.replicate 128 0)) 5)) 50 9 5 5 (w.alloc (.cells #[.int .i64 0, .int .u64 0, .string ⟨#[]⟩] 24)).heap.size 128 128 (List.replicate 128 0) Tryz.underlying50 Tryz.underlying5 Tryz.underlying9 (Sits.fresh _ _ _) (by simp)
  obtain ⟨y, hy⟩ : ∃ y, y = str (List.replicate 128 0) := ⟨_, rfl⟩
  rw [← hy] at hcv
  obtain ⟨z, hzz⟩ : ∃ z, z = byteCells (List.replicate 128 0) := ⟨_, rfl⟩
  rw [← hzz] at hcv hmk
  simp only [World.size_alloc] at hcv hmk
  have hxy : ((str b).toList == y.toList) = false := eq_no (fun e => hz (str_inj (e.trans hy)))
  have HX1 : Hid ((str b).extract 0 64 = str (b.take 64)) := Lib.hid (by rw [str_extract, List.drop_zero])
  have HX2 : Hid ((str b).extract 64 128 = str (b.drop 64)) := Lib.hid (by rw [str_extract, List.take_of_length_le (by omega)])
  obtain ⟨hl1, hl2⟩ := sec_halves hl
  have hr1 := fun W => refread_all (str (b.take 64)) W (by rw [str_size]; omega)
  rw [(rd_sec hl1).1, (rd_sec hl1).2, hs1] at hr1
  have hr2 := fun W => refread_all (str (b.drop 64)) W (by rw [str_size]; omega)
  rw [(rd_sec hl2).1, (rd_sec hl2).2, hs2] at hr2
  simp only [if_true] at hr1
  simp only [if_true] at hr2
  obtain ⟨t1, ht1⟩ : ∃ t, t = (b.take 64).take 60 := ⟨_, rfl⟩
  obtain ⟨t2, ht2⟩ : ∃ t, t = (b.drop 64).take 60 := ⟨_, rfl⟩
  rw [← ht1] at hr1
  rw [← ht2] at hr2
  have HR1 := Lib.hid hr1
  have HR2 := Lib.hid hr2
  have hr11 : ((t1.drop 48).take 4) = ((b.take 64).drop 48).take 4 := by rw [ht1, List.drop_take, List.take_take]; rfl
  have hr12 : (((t1.drop 48).drop 4).take 8) = ((b.take 64).drop 52).take 8 := by rw [ht1, List.drop_take, List.drop_take, List.take_take, List.drop_drop]; rfl
  have HL1 : Hid ((t1.drop 48).length = 12) := Lib.hid (by rw [ht1, List.length_drop, List.length_take, hl1]; rfl)
  have hts1 : (str t1).size = 60 := by rw [str_size, ht1, List.length_take, hl1]; rfl
  have hte1 : (str t1).extract 48 60 = str (t1.drop 48) := by rw [str_extract, List.take_of_length_le (by rw [ht1, List.length_take]; omega)]
  have hth1 : (str t1).extract 0 48 = str ((b.take 64).take 48) := by rw [str_extract, List.drop_zero, ht1, List.take_take]; rfl
  have HTE1 := Lib.hid hte1
  have HTH1 := Lib.hid hth1
  have HTS1 := Lib.hid hts1
  obtain ⟨n1, hn1⟩ : ∃ v, v = numOf (b.take 64) := ⟨_, rfl⟩
  obtain ⟨v1, hv1⟩ : ∃ v, v = verOf (b.take 64) := ⟨_, rfl⟩
  obtain ⟨x1, hX1⟩ : ∃ v, v = str ((b.take 64).take 48) := ⟨_, rfl⟩
  have hnl1 : (n1 : Int) < 4294967296 := by have := numOf_lt (b.take 64); omega
  have hu1 : IntKind.i64.wrap (n1 : Int) = (n1 : Int) := by rw [IntKind.wrap_i64]; omega
  have HU1 : Hid (unleb ((t1.drop 48).take 4) = n1) := Lib.hid (by rw [hr11, hn1]; rfl)
  have HV1 : Hid (unleb (((t1.drop 48).drop 4).take 8) = v1) := Lib.hid (by rw [hr12, hv1]; rfl)
  rw [← hX1] at HTH1
  have hr21 : ((t2.drop 48).take 4) = ((b.drop 64).drop 48).take 4 := by rw [ht2, List.drop_take, List.take_take]; rfl
  have hr22 : (((t2.drop 48).drop 4).take 8) = ((b.drop 64).drop 52).take 8 := by rw [ht2, List.drop_take, List.drop_take, List.take_take, List.drop_drop]; rfl
  have HL2 : Hid ((t2.drop 48).length = 12) := Lib.hid (by rw [ht2, List.length_drop, List.length_take, hl2]; rfl)
  have hts2 : (str t2).size = 60 := by rw [str_size, ht2, List.length_take, hl2]; rfl
  have hte2 : (str t2).extract 48 60 = str (t2.drop 48) := by rw [str_extract, List.take_of_length_le (by rw [ht2, List.length_take]; omega)]
  have hth2 : (str t2).extract 0 48 = str ((b.drop 64).take 48) := by rw [str_extract, List.drop_zero, ht2, List.take_take]; rfl
  have HTE2 := Lib.hid hte2
  have HTH2 := Lib.hid hth2
  have HTS2 := Lib.hid hts2
  obtain ⟨n2, hn2⟩ : ∃ v, v = numOf (b.drop 64) := ⟨_, rfl⟩
  obtain ⟨v2, hv2⟩ : ∃ v, v = verOf (b.drop 64) := ⟨_, rfl⟩
  obtain ⟨x2, hX2⟩ : ∃ v, v = str ((b.drop 64).take 48) := ⟨_, rfl⟩
  have hnl2 : (n2 : Int) < 4294967296 := by have := numOf_lt (b.drop 64); omega
  have hu2 : IntKind.i64.wrap (n2 : Int) = (n2 : Int) := by rw [IntKind.wrap_i64]; omega
  have HU2 : Hid (unleb ((t2.drop 48).take 4) = n2) := Lib.hid (by rw [hr21, hn2]; rfl)
  have HV2 : Hid (unleb (((t2.drop 48).drop 4).take 8) = v2) := Lib.hid (by rw [hr22, hv2]; rfl)
  rw [← hX2] at HTH2
  rw [← hn1] at h1
  have dn1 : ((n1 : Int) != n) = false := by simp [h1]
  rw [← hn2] at h2
  have dn2 : ((n2 : Int) != n) = false := by simp [h2]
  have dn3 : decide (4096 ≤ n) = true := decide_eq_true h3
  clear h1 h2 h3
  obtain ⟨x, hx⟩ : ∃ x, x = str b := ⟨_, rfl⟩
  rw [← hx] at hsz d1 hxy HX1 HX2 ⊢
  clear hi hz0 hz1 hz2 hl hl1 hl2 hz hx hy hzz hs1 hs2 hr1 hr2 hr11 hr12 hr21 hr22 ht1 ht2 hn1 hv1 hX1 hn2 hv2 hX2 hts1 hts2 hte1 hte2 hth1 hth2
  have HS1 : Hid (Sits ((w.alloc (.cells #[.int .i64 0, .int .u64 0, .string ⟨#[]⟩] 24)).alloc (.cells z 5)) w.heap.size 24 #[.int .i64 0, .int .u64 0, .string ⟨#[]⟩]) := Lib.hid ((Sits.fresh w _ _).alloc _)
  have HF1 : Hid (Below w.heap.size w ((w.alloc (.cells #[.int .i64 0, .int .u64 0, .string ⟨#[]⟩] 24)).alloc (.cells z 5))) := Lib.hid (((Below.refl w.heap.size w).alloc (Nat.le_refl _) _).alloc (by simp) _)
  obtain ⟨T1, hT1⟩ : ∃ T, T = str t1 := ⟨_, rfl⟩
  obtain ⟨T2, hT2⟩ : ∃ T, T = str t2 := ⟨_, rfl⟩
  rw [← hT1] at HR1 HTE1 HTH1 HTS1
  rw [← hT2] at HR2 HTE2 HTH2 HTS2
  obtain ⟨l1, hL1⟩ : ∃ l, l = t1.drop 48 := ⟨_, rfl⟩
  obtain ⟨l2, hL2⟩ : ∃ l, l = t2.drop 48 := ⟨_, rfl⟩
  rw [← hL1] at HTE1 HL1 HU1 HV1
  rw [← hL2] at HTE2 HL2 HU2 HV2
  clear hT1 hT2 hL1 hL2
  have HNA : Hid (∀ p W, RR W p l1 0 → Calls Tryz.prog 29 #[.pointer (some ⟨p, 0, none⟩), .int .i64 4] W fun r w' => r = .returned (.int .u64 (n1 : Int)) ∧ RR w' p (l1.drop 4) 0 ∧ Only p W w') := Lib.hid fun p W hW => by
    have := refnum_ok p 4 l1 W hW (by omega) (by have := HL1.out; omega)
    rw [HU1.out] at this
    exact this
  have HNB : Hid (∀ p W, RR W p l2 0 → Calls Tryz.prog 29 #[.pointer (some ⟨p, 0, none⟩), .int .i64 4] W fun r w' => r = .returned (.int .u64 (n2 : Int)) ∧ RR w' p (l2.drop 4) 0 ∧ Only p W w') := Lib.hid fun p W hW => by
    have := refnum_ok p 4 l2 W hW (by omega) (by have := HL2.out; omega)
    rw [HU2.out] at this
    exact this
  have HNC : Hid (∀ p W, RR W p (l1.drop 4) 0 → Calls Tryz.prog 29 #[.pointer (some ⟨p, 0, none⟩), .int .i64 8] W fun r w' => r = .returned (.int .u64 (v1 : Int)) ∧ RR w' p ((l1.drop 4).drop 8) 0 ∧ Only p W w') := Lib.hid fun p W hW => by
    have := refnum_ok p 8 (l1.drop 4) W hW (by omega) (by have := HL1.out; rw [List.length_drop]; omega)
    rw [HV1.out] at this
    exact this
  have HND : Hid (∀ p W, RR W p (l2.drop 4) 0 → Calls Tryz.prog 29 #[.pointer (some ⟨p, 0, none⟩), .int .i64 8] W fun r w' => r = .returned (.int .u64 (v2 : Int)) ∧ RR w' p ((l2.drop 4).drop 8) 0 ∧ Only p W w') := Lib.hid fun p W hW => by
    have := refnum_ok p 8 (l2.drop 4) W hW (by omega) (by have := HL2.out; rw [List.length_drop]; omega)
    rw [HV2.out] at this
    exact this
  go_enter Tryz.func11, Tryz.ntmps11
  go_wp2_with fail
  rw [HX1.out]
  refine (HR1.out _).mono ?_
  rintro e w2 ⟨rfl, hb⟩
  have HS2 := Lib.hid (HS1.out.below' hb)
  have HF2 := Lib.hid (HF1.out.trans (hb.mono HF1.out.size))
  clear hb HS1 HF1 hmk hcv
  go_wp2_with fail
  rw [HX2.out]
  refine (HR2.out _).mono ?_
  rintro e w3 ⟨rfl, hb⟩
  have HS3 := Lib.hid (HS2.out.below' hb)
  have HF3 := Lib.hid (HF2.out.trans (hb.mono HF2.out.size))
  clear hb HS2 HF2
  have hq1 := HTS1.out
  have hq2 := HTS2.out
  go_wp2_with fail
  refine wp_region_exV (by kernel_rfl) (TwoM 3 7 8 9 w3 63 63 #[.string (str l1), .int .i64 0] #[.string (str l2), .int .i64 0])
    [[(6, none)], [(47, some 0)], [(48, some 1)], [(49, some 2)], [(8, none)], [(51, some 4)], [(52, some 5)], [(53, some 6)], [(50, some 3)], [(54, some 7)]]
    [none, none, none, none, none, none, none, none, none, some 8, some 9, none, none, none, none, none, none, none, none, none, none, none, none, none, none, none, none, none, none, none, none, none, none, none, none, none, none, none, none, none, none, none, none, none, none, none, none, some 0, some 1, some 2, some 3, some 4, some 5, some 6, some 7, none, none, none, none, none, none, none, none, none, none, none, none, none, none, none, none, none, none, none, none, none, none, none, none, none, none, none, none, none, none, none, none, none, none, none] (by kernel_rfl) (by kernel_rfl) (TwoM.start (Below.refl _ _).drew) ?_
  iterate 2
    refine exV_pure (c := ?_) (fun _ _ _ h => h.pure (by decide) (by decide) (by decide) (by decide)) ?_ ?_
    rotate_left
    · intro a' d' W hR hF
      simp only [FactsV, List.nil_append, List.cons_append, List.getD_cons_zero, List.getD_cons_succ, exists_eq_left, and_true, true_and, List.getElem?_toArray, List.getElem?_cons_zero, List.getElem?_cons_succ] at hF
      refine ⟨?_, ?_⟩
      · simp [Region.wanted, yielded, hF]
      · go_simp
        with_reducible rfl
  iterate 1
    refine exV_pure (c := ?_) (fun _ _ _ h => h.pure (by decide) (by decide) (by decide) (by decide)) ?_ ?_
    rotate_left
    · intro a' d' W hR hF
      simp only [FactsV, List.nil_append, List.cons_append, List.getD_cons_zero, List.getD_cons_succ, exists_eq_left, and_true, true_and, List.getElem?_toArray, List.getElem?_cons_zero, List.getElem?_cons_succ] at hF
      rw [HTE1.out] at hF
      refine ⟨?_, ?_⟩
      · simp [Region.wanted, yielded, hF]
      · go_simp
        with_reducible rfl
  refine exV_step (fun _ => True) (fun a' d' W hd hR hF => ?_) ?_
  · skip
    simp only [FactsV, List.nil_append, List.cons_append, List.getD_cons_zero, List.getD_cons_succ, exists_eq_left, and_true, true_and, List.getElem?_toArray, List.getElem?_cons_zero, List.getElem?_cons_succ] at hF
    exact ⟨by simp [Region.wanted, yielded, hF], .pointer (some ⟨W.heap.size, 0, none⟩), W.alloc (.cells #[.string (str l1), .int .i64 0] 63), by go_simp, trivial, hR.one hd (by decide) (by decide) (by decide)⟩
  iterate 2
    refine exV_pure (c := ?_) (fun _ _ _ h => h.pure (by decide) (by decide) (by decide) (by decide)) ?_ ?_
    rotate_left
    · intro a' d' W hR hF
      simp only [FactsV, List.nil_append, List.cons_append, List.getD_cons_zero, List.getD_cons_succ, exists_eq_left, and_true, true_and, List.getElem?_toArray, List.getElem?_cons_zero, List.getElem?_cons_succ] at hF
      refine ⟨?_, ?_⟩
      · simp [Region.wanted, yielded, hF]
      · go_simp
        with_reducible rfl
  iterate 1
    refine exV_pure (c := ?_) (fun _ _ _ h => h.pure (by decide) (by decide) (by decide) (by decide)) ?_ ?_
    rotate_left
    · intro a' d' W hR hF
      simp only [FactsV, List.nil_append, List.cons_append, List.getD_cons_zero, List.getD_cons_succ, exists_eq_left, and_true, true_and, List.getElem?_toArray, List.getElem?_cons_zero, List.getElem?_cons_succ] at hF
      rw [HTE2.out] at hF
      refine ⟨?_, ?_⟩
      · simp [Region.wanted, yielded, hF]
      · go_simp
        with_reducible rfl
  refine exV_step (fun _ => True) (fun a' d' W hd hR hF => ?_) ?_
  · skip
    simp only [FactsV, List.nil_append, List.cons_append, List.getD_cons_zero, List.getD_cons_succ, exists_eq_left, and_true, true_and, List.getElem?_toArray, List.getElem?_cons_zero, List.getElem?_cons_succ] at hF
    exact ⟨by simp [Region.wanted, yielded, hF], .pointer (some ⟨W.heap.size, 0, none⟩), W.alloc (.cells #[.string (str l2), .int .i64 0] 63), by go_simp, trivial, hR.two hd (by decide) (by decide) (by decide)⟩
  refine exV_hand (fun _ => True) (fun a' d' W hd hR hF => ?_) ?_
  · skip
    simp only [FactsV, List.nil_append, List.cons_append, List.getD_cons_zero, List.getD_cons_succ, exists_eq_left, and_true, true_and, List.getElem?_toArray, List.getElem?_cons_zero, List.getElem?_cons_succ] at hF
    obtain ⟨v, hv, h1⟩ := hF
    exact ⟨by simp [Region.wanted, yielded], v, by simp [execOp, Act.eval, hv], trivial, hR.hand1 h1 (by decide) (by decide) (by decide)⟩
  refine exV_hand (fun _ => True) (fun a' d' W hd hR hF => ?_) ?_
  · skip
    simp only [FactsV, List.nil_append, List.cons_append, List.getD_cons_zero, List.getD_cons_succ, exists_eq_left, and_true, true_and, List.getElem?_toArray, List.getElem?_cons_zero, List.getElem?_cons_succ] at hF
    obtain ⟨v, hv, h1⟩ := hF
    exact ⟨by simp [Region.wanted, yielded], v, by simp [execOp, Act.eval, hv], trivial, hR.hand2 h1 (by decide) (by decide) (by decide)⟩
  show ∀ d W, _ → _ → _
  intro d w4 hA2 hR2
  simp only [FinV, List.nil_append, List.cons_append, List.getD_cons_zero, List.getD_cons_succ, forall_eq, forall_const, true_implies, forall_exists_index, and_imp, Nat.reduceAdd, Array.getD_eq_getD_getElem?, List.getElem?_toArray, List.getElem?_cons_zero, List.getElem?_cons_succ, Option.getD_some]
  clear hA2
  intro vp h8 vq h9 _ _ _ va _ _ _ _ vb _
  obtain ⟨p, rfl, hsp, hp⟩ := hR2.fst _ (hR2.hi _ h8)
  obtain ⟨q, rfl, hsq, hq⟩ := hR2.snd _ (hR2.hj _ h9)
  have hpq : p ≠ q := fun e => hR2.ne _ _ (hR2.hi _ h8) (hR2.hj _ h9) (by rw [e])
  have hlt3 : w.heap.size < w3.heap.size := HS3.out.lt
  have HP4 : Hid (RR w4 p l1 0) := Lib.hid ⟨l1, hsp, fun _ => rfl, by have := HL1.out; omega⟩
  have HQ4 : Hid (RR w4 q l2 0) := Lib.hid ⟨l2, hsq, fun _ => rfl, by have := HL2.out; omega⟩
  have HS4 := Lib.hid (HS3.out.below' hR2.low)
  have HF4 := Lib.hid (HF3.out.trans (hR2.low.mono HF3.out.size))
  have hp0 : w.heap.size < p := by omega
  have hq0 : w.heap.size < q := by omega
  clear h8 h9 hsp hsq hp hq hR2 hlt3 HS3 HF3
  go_wp2_with fail
  (with_reducible refine (HNA.out _ _ HP4.out).mono ?_)
  rintro e w5 ⟨rfl, hr, ho⟩
  have HP5 := Lib.hid hr
  have HQ5 := Lib.hid (HQ4.out.only ho hpq)
  have HS5 := Lib.hid (HS4.out.only ho (by omega))
  have HF5 := Lib.hid (Below.then_only HF4.out ho (by omega) HF4.out.size)
  clear hr ho HP4 HQ4 HS4 HF4
  go_wp2_with fail
  (with_reducible refine (HNB.out _ _ HQ5.out).mono ?_)
  rintro e w6 ⟨rfl, hr, ho⟩
  have HQ6 := Lib.hid hr
  have HP6 := Lib.hid (HP5.out.only ho (fun e => hpq e.symm))
  have HS6 := Lib.hid (HS5.out.only ho (by omega))
  have HF6 := Lib.hid (Below.then_only HF5.out ho (by omega) HF5.out.size)
  clear hr ho HQ5 HP5 HS5 HF5
  go_wp2_with fail
  (with_reducible refine (HNC.out _ _ HP6.out).mono ?_)
  rintro e w7 ⟨rfl, hr, ho⟩
  have HP7 := Lib.hid hr
  have HQ7 := Lib.hid (HQ6.out.only ho hpq)
  have HS7 := Lib.hid (HS6.out.only ho (by omega))
  have HF7 := Lib.hid (Below.then_only HF6.out ho (by omega) HF6.out.size)
  clear hr ho HP6 HQ6 HS6 HF6
  go_wp2_with fail
  (with_reducible refine (HND.out _ _ HQ7.out).mono ?_)
  rintro e w8 ⟨rfl, hr, ho⟩
  have HQ8 := Lib.hid hr
  have HP8 := Lib.hid (HP7.out.only ho (fun e => hpq e.symm))
  have HS8 := Lib.hid (HS7.out.only ho (by omega))
  have HF8 := Lib.hid (Below.then_only HF7.out ho (by omega) HF7.out.size)
  clear hr ho HQ7 HP7 HS7 HF7
  have hs := HS8.out
  have c0 : w8.cell? ⟨w.heap.size, 0, none⟩ = some (.int .i64 0) := hs.cell 0
  have c1 : w8.cell? ⟨w.heap.size, 1, none⟩ = some (.int .u64 0) := hs.cell 1
  have c2 : w8.cell? ⟨w.heap.size, 2, none⟩ = some (.string ⟨#[]⟩) := hs.cell 2
  have f0 := hs.warm 0
  have f1 := hs.warm 1
  have f2 := hs.warm 2
  clear hs
  go_wp2
  refine bodyPost_ret (v := .tuple #[.agg #[.int .i64 0, .int .u64 0, .string ⟨#[]⟩], .int .i64 4]) (by simp [results, Tryz.results11, go_sem, c0, c1, c2]) rfl ⟨rfl, ?_⟩
  exact ((HF8.out.setCell (Nat.le_refl _) _).setCell (Nat.le_refl _) _).setCell (Nat.le_refl _) _
theorem rget_torn (n : Int) (b : List UInt8) (hl : b.length = 128) (hz : b ≠ List.replicate 128 0) (hs1 : soundB (b.take 64) = true) (hs2 : soundB (b.drop 64) = true) (h1 : (numOf (b.take 64) : Int) = n) (h2 : (numOf (b.drop 64) : Int) = n) (h3 : n < 4096) (h4 : verOf (b.take 64) ≠ verOf (b.drop 64)) (w : World) : Calls Tryz.prog 11 #[.int .i64 n, .string (str b)] w fun e w' => e = .returned (.tuple #[.agg #[.int .i64 0, .int .u64 0, .string ⟨#[]⟩], .int .i64 6]) ∧ Below w.heap.size w w' := by
  have hsz : (str b).size = 128 := by rw [str_size, hl]
  have d1 : (((str b).size : Int) != 128) = false := by rw [hsz]; rfl
  obtain ⟨i0, hi, hz0, hz1, hz2⟩ := info_parts Tryz.info5
  have hmk := run_make (P := Tryz.prog) (w.alloc (.cells #[.int .i64 0, .int .u64 0, .string ⟨#[]⟩] 24)) 50 5 i0 _ Tryz.underlying50 hi hz0 .i64 .i64 128 128 (by omega) (by omega) (by rw [hz2]; omega) (by omega)
  simp only [show (128 : Int).toNat = 128 from rfl, hz1, Nat.mul_one, show (Value.int .u8 0).cells = #[Value.int .u8 0] from rfl, byteCells_made] at hmk
  have hcv := run_text_of_row (P := Tryz.prog) ((w.alloc (.cells #[.int .i64 0, .int .u64 0, .string ⟨#[]⟩] 24)).alloc (.cells (byteCells (List.replicate 128 0)) 5)) 50 9 5 5 (w.alloc (.cells #[.int .i64 0, .int .u64 0, .string ⟨#[]⟩] 24)).heap.size 128 128 (List.replicate 128 0) Tryz.underlying50 Tryz.underlying5 Tryz.underlying9 (Sits.fresh _ _ _) (by simp)
  obtain ⟨y, hy⟩ : ∃ y, y = str (List.replicate 128 0) := ⟨_, rfl⟩
  rw [← hy] at hcv
  obtain ⟨z, hzz⟩ : ∃ z, z = byteCells (List.replicate 128 0) := ⟨_, rfl⟩
  rw [← hzz] at hcv hmk
  simp only [World.size_alloc] at hcv hmk
  have hxy : ((str b).toList == y.toList) = false := eq_no (fun e => hz (str_inj (e.trans hy)))
  have HX1 : Hid ((str b).extract 0 64 = str (b.take 64)) := Lib.hid (by rw [str_extract, List.drop_zero])
  have HX2 : Hid ((str b).extract 64 128 = str (b.drop 64)) := Lib.hid (by rw [str_extract, List.take_of_length_le (by omega)])
  obtain ⟨hl1, hl2⟩ := sec_halves hl
  have hr1 := fun W => refread_all (str (b.take 64)) W (by rw [str_size]; omega)
  rw [(rd_sec hl1).1, (rd_sec hl1).2, hs1] at hr1
  have hr2 := fun W => refread_all (str (b.drop 64)) W (by rw [str_size]; omega)
  rw [(rd_sec hl2).1, (rd_sec hl2).2, hs2] at hr2
  simp only [if_true] at hr1
  simp only [if_true] at hr2
  obtain ⟨t1, ht1⟩ : ∃ t, t = (b.take 64).take 60 := ⟨_, rfl⟩
  obtain ⟨t2, ht2⟩ : ∃ t, t = (b.drop 64).take 60 := ⟨_, rfl⟩
  rw [← ht1] at hr1
  rw [← ht2] at hr2
  have HR1 := Lib.hid hr1
  have HR2 := Lib.hid hr2
  have hr11 : ((t1.drop 48).take 4) = ((b.take 64).drop 48).take 4 := by rw [ht1, List.drop_take, List.take_take]; rfl
  have hr12 : (((t1.drop 48).drop 4).take 8) = ((b.take 64).drop 52).take 8 := by rw [ht1, List.drop_take, List.drop_take, List.take_take, List.drop_drop]; rfl
  have HL1 : Hid ((t1.drop 48).length = 12) := Lib.hid (by rw [ht1, List.length_drop, List.length_take, hl1]; rfl)
  have hts1 : (str t1).size = 60 := by rw [str_size, ht1, List.length_take, hl1]; rfl
  have hte1 : (str t1).extract 48 60 = str (t1.drop 48) := by rw [str_extract, List.take_of_length_le (by rw [ht1, List.length_take]; omega)]
  have hth1 : (str t1).extract 0 48 = str ((b.take 64).take 48) := by rw [str_extract, List.drop_zero, ht1, List.take_take]; rfl
  have HTE1 := Lib.hid hte1
  have HTH1 := Lib.hid hth1
  have HTS1 := Lib.hid hts1
  obtain ⟨n1, hn1⟩ : ∃ v, v = numOf (b.take 64) := ⟨_, rfl⟩
  obtain ⟨v1, hv1⟩ : ∃ v, v = verOf (b.take 64) := ⟨_, rfl⟩
  obtain ⟨x1, hX1⟩ : ∃ v, v = str ((b.take 64).take 48) := ⟨_, rfl⟩
  have hnl1 : (n1 : Int) < 4294967296 := by have := numOf_lt (b.take 64); omega
  have hu1 : IntKind.i64.wrap (n1 : Int) = (n1 : Int) := by rw [IntKind.wrap_i64]; omega
  have HU1 : Hid (unleb ((t1.drop 48).take 4) = n1) := Lib.hid (by rw [hr11, hn1]; rfl)
  have HV1 : Hid (unleb (((t1.drop 48).drop 4).take 8) = v1) := Lib.hid (by rw [hr12, hv1]; rfl)
  rw [← hX1] at HTH1
  have hr21 : ((t2.drop 48).take 4) = ((b.drop 64).drop 48).take 4 := by rw [ht2, List.drop_take, List.take_take]; rfl
  have hr22 : (((t2.drop 48).drop 4).take 8) = ((b.drop 64).drop 52).take 8 := by rw [ht2, List.drop_take, List.drop_take, List.take_take, List.drop_drop]; rfl
  have HL2 : Hid ((t2.drop 48).length = 12) := Lib.hid (by rw [ht2, List.length_drop, List.length_take, hl2]; rfl)
  have hts2 : (str t2).size = 60 := by rw [str_size, ht2, List.length_take, hl2]; rfl
  have hte2 : (str t2).extract 48 60 = str (t2.drop 48) := by rw [str_extract, List.take_of_length_le (by rw [ht2, List.length_take]; omega)]
  have hth2 : (str t2).extract 0 48 = str ((b.drop 64).take 48) := by rw [str_extract, List.drop_zero, ht2, List.take_take]; rfl
  have HTE2 := Lib.hid hte2
  have HTH2 := Lib.hid hth2
  have HTS2 := Lib.hid hts2
  obtain ⟨n2, hn2⟩ : ∃ v, v = numOf (b.drop 64) := ⟨_, rfl⟩
  obtain ⟨v2, hv2⟩ : ∃ v, v = verOf (b.drop 64) := ⟨_, rfl⟩
  obtain ⟨x2, hX2⟩ : ∃ v, v = str ((b.drop 64).take 48) := ⟨_, rfl⟩
  have hnl2 : (n2 : Int) < 4294967296 := by have := numOf_lt (b.drop 64); omega
  have hu2 : IntKind.i64.wrap (n2 : Int) = (n2 : Int) := by rw [IntKind.wrap_i64]; omega
  have HU2 : Hid (unleb ((t2.drop 48).take 4) = n2) := Lib.hid (by rw [hr21, hn2]; rfl)
  have HV2 : Hid (unleb (((t2.drop 48).drop 4).take 8) = v2) := Lib.hid (by rw [hr22, hv2]; rfl)
  rw [← hX2] at HTH2
  rw [← hn1] at h1
  have dn1 : ((n1 : Int) != n) = false := by simp [h1]
  rw [← hn2] at h2
  have dn2 : ((n2 : Int) != n) = false := by simp [h2]
  have dn3 : decide (4096 ≤ n) = false := decide_eq_false (by omega)
  clear h1 h2 h3
  rw [← hv1, ← hv2] at h4
  have dv : ((v1 : Int) != (v2 : Int)) = true := by simp only [bne_iff_ne]; omega
  clear h4
  obtain ⟨x, hx⟩ : ∃ x, x = str b := ⟨_, rfl⟩
  rw [← hx] at hsz d1 hxy HX1 HX2 ⊢
  clear hi hz0 hz1 hz2 hl hl1 hl2 hz hx hy hzz hs1 hs2 hr1 hr2 hr11 hr12 hr21 hr22 ht1 ht2 hn1 hv1 hX1 hn2 hv2 hX2 hts1 hts2 hte1 hte2 hth1 hth2
  have HS1 : Hid (Sits ((w.alloc (.cells #[.int .i64 0, .int .u64 0, .string ⟨#[]⟩] 24)).alloc (.cells z 5)) w.heap.size 24 #[.int .i64 0, .int .u64 0, .string ⟨#[]⟩]) := Lib.hid ((Sits.fresh w _ _).alloc _)
  have HF1 : Hid (Below w.heap.size w ((w.alloc (.cells #[.int .i64 0, .int .u64 0, .string ⟨#[]⟩] 24)).alloc (.cells z 5))) := Lib.hid (((Below.refl w.heap.size w).alloc (Nat.le_refl _) _).alloc (by simp) _)
  obtain ⟨T1, hT1⟩ : ∃ T, T = str t1 := ⟨_, rfl⟩
  obtain ⟨T2, hT2⟩ : ∃ T, T = str t2 := ⟨_, rfl⟩
  rw [← hT1] at HR1 HTE1 HTH1 HTS1
  rw [← hT2] at HR2 HTE2 HTH2 HTS2
  obtain ⟨l1, hL1⟩ : ∃ l, l = t1.drop 48 := ⟨_, rfl⟩
  obtain ⟨l2, hL2⟩ : ∃ l, l = t2.drop 48 := ⟨_, rfl⟩
  rw [← hL1] at HTE1 HL1 HU1 HV1
  rw [← hL2] at HTE2 HL2 HU2 HV2
  clear hT1 hT2 hL1 hL2
  have HNA : Hid (∀ p W, RR W p l1 0 → Calls Tryz.prog 29 #[.pointer (some ⟨p, 0, none⟩), .int .i64 4] W fun r w' => r = .returned (.int .u64 (n1 : Int)) ∧ RR w' p (l1.drop 4) 0 ∧ Only p W w') := Lib.hid fun p W hW => by
    have := refnum_ok p 4 l1 W hW (by omega) (by have := HL1.out; omega)
    rw [HU1.out] at this
    exact this
  have HNB : Hid (∀ p W, RR W p l2 0 → Calls Tryz.prog 29 #[.pointer (some ⟨p, 0, none⟩), .int .i64 4] W fun r w' => r = .returned (.int .u64 (n2 : Int)) ∧ RR w' p (l2.drop 4) 0 ∧ Only p W w') := Lib.hid fun p W hW => by
    have := refnum_ok p 4 l2 W hW (by omega) (by have := HL2.out; omega)
    rw [HU2.out] at this
    exact this
  have HNC : Hid (∀ p W, RR W p (l1.drop 4) 0 → Calls Tryz.prog 29 #[.pointer (some ⟨p, 0, none⟩), .int .i64 8] W fun r w' => r = .returned (.int .u64 (v1 : Int)) ∧ RR w' p ((l1.drop 4).drop 8) 0 ∧ Only p W w') := Lib.hid fun p W hW => by
    have := refnum_ok p 8 (l1.drop 4) W hW (by omega) (by have := HL1.out; rw [List.length_drop]; omega)
    rw [HV1.out] at this
    exact this
  have HND : Hid (∀ p W, RR W p (l2.drop 4) 0 → Calls Tryz.prog 29 #[.pointer (some ⟨p, 0, none⟩), .int .i64 8] W fun r w' => r = .returned (.int .u64 (v2 : Int)) ∧ RR w' p ((l2.drop 4).drop 8) 0 ∧ Only p W w') := Lib.hid fun p W hW => by
    have := refnum_ok p 8 (l2.drop 4) W hW (by omega) (by have := HL2.out; rw [List.length_drop]; omega)
    rw [HV2.out] at this
    exact this
  go_enter Tryz.func11, Tryz.ntmps11
  go_wp2_with fail
  rw [HX1.out]
  refine (HR1.out _).mono ?_
  rintro e w2 ⟨rfl, hb⟩
  have HS2 := Lib.hid (HS1.out.below' hb)
  have HF2 := Lib.hid (HF1.out.trans (hb.mono HF1.out.size))
  clear hb HS1 HF1 hmk hcv
  go_wp2_with fail
  rw [HX2.out]
  refine (HR2.out _).mono ?_
  rintro e w3 ⟨rfl, hb⟩
  have HS3 := Lib.hid (HS2.out.below' hb)
  have HF3 := Lib.hid (HF2.out.trans (hb.mono HF2.out.size))
  clear hb HS2 HF2
  have hq1 := HTS1.out
  have hq2 := HTS2.out
  go_wp2_with fail
  refine wp_region_exV (by kernel_rfl) (TwoM 3 7 8 9 w3 63 63 #[.string (str l1), .int .i64 0] #[.string (str l2), .int .i64 0])
    [[(6, none)], [(47, some 0)], [(48, some 1)], [(49, some 2)], [(8, none)], [(51, some 4)], [(52, some 5)], [(53, some 6)], [(50, some 3)], [(54, some 7)]]
    [none, none, none, none, none, none, none, none, none, some 8, some 9, none, none, none, none, none, none, none, none, none, none, none, none, none, none, none, none, none, none, none, none, none, none, none, none, none, none, none, none, none, none, none, none, none, none, none, none, some 0, some 1, some 2, some 3, some 4, some 5, some 6, some 7, none, none, none, none, none, none, none, none, none, none, none, none, none, none, none, none, none, none, none, none, none, none, none, none, none, none, none, none, none, none, none, none, none, none, none] (by kernel_rfl) (by kernel_rfl) (TwoM.start (Below.refl _ _).drew) ?_
  iterate 2
    refine exV_pure (c := ?_) (fun _ _ _ h => h.pure (by decide) (by decide) (by decide) (by decide)) ?_ ?_
    rotate_left
    · intro a' d' W hR hF
      simp only [FactsV, List.nil_append, List.cons_append, List.getD_cons_zero, List.getD_cons_succ, exists_eq_left, and_true, true_and, List.getElem?_toArray, List.getElem?_cons_zero, List.getElem?_cons_succ] at hF
      refine ⟨?_, ?_⟩
      · simp [Region.wanted, yielded, hF]
      · go_simp
        with_reducible rfl
  iterate 1
    refine exV_pure (c := ?_) (fun _ _ _ h => h.pure (by decide) (by decide) (by decide) (by decide)) ?_ ?_
    rotate_left
    · intro a' d' W hR hF
      simp only [FactsV, List.nil_append, List.cons_append, List.getD_cons_zero, List.getD_cons_succ, exists_eq_left, and_true, true_and, List.getElem?_toArray, List.getElem?_cons_zero, List.getElem?_cons_succ] at hF
      rw [HTE1.out] at hF
      refine ⟨?_, ?_⟩
      · simp [Region.wanted, yielded, hF]
      · go_simp
        with_reducible rfl
  refine exV_step (fun _ => True) (fun a' d' W hd hR hF => ?_) ?_
  · skip
    simp only [FactsV, List.nil_append, List.cons_append, List.getD_cons_zero, List.getD_cons_succ, exists_eq_left, and_true, true_and, List.getElem?_toArray, List.getElem?_cons_zero, List.getElem?_cons_succ] at hF
    exact ⟨by simp [Region.wanted, yielded, hF], .pointer (some ⟨W.heap.size, 0, none⟩), W.alloc (.cells #[.string (str l1), .int .i64 0] 63), by go_simp, trivial, hR.one hd (by decide) (by decide) (by decide)⟩
  iterate 2
    refine exV_pure (c := ?_) (fun _ _ _ h => h.pure (by decide) (by decide) (by decide) (by decide)) ?_ ?_
    rotate_left
    · intro a' d' W hR hF
      simp only [FactsV, List.nil_append, List.cons_append, List.getD_cons_zero, List.getD_cons_succ, exists_eq_left, and_true, true_and, List.getElem?_toArray, List.getElem?_cons_zero, List.getElem?_cons_succ] at hF
      refine ⟨?_, ?_⟩
      · simp [Region.wanted, yielded, hF]
      · go_simp
        with_reducible rfl
  iterate 1
    refine exV_pure (c := ?_) (fun _ _ _ h => h.pure (by decide) (by decide) (by decide) (by decide)) ?_ ?_
    rotate_left
    · intro a' d' W hR hF
      simp only [FactsV, List.nil_append, List.cons_append, List.getD_cons_zero, List.getD_cons_succ, exists_eq_left, and_true, true_and, List.getElem?_toArray, List.getElem?_cons_zero, List.getElem?_cons_succ] at hF
      rw [HTE2.out] at hF
      refine ⟨?_, ?_⟩
      · simp [Region.wanted, yielded, hF]
      · go_simp
        with_reducible rfl
  refine exV_step (fun _ => True) (fun a' d' W hd hR hF => ?_) ?_
  · skip
    simp only [FactsV, List.nil_append, List.cons_append, List.getD_cons_zero, List.getD_cons_succ, exists_eq_left, and_true, true_and, List.getElem?_toArray, List.getElem?_cons_zero, List.getElem?_cons_succ] at hF
    exact ⟨by simp [Region.wanted, yielded, hF], .pointer (some ⟨W.heap.size, 0, none⟩), W.alloc (.cells #[.string (str l2), .int .i64 0] 63), by go_simp, trivial, hR.two hd (by decide) (by decide) (by decide)⟩
  refine exV_hand (fun _ => True) (fun a' d' W hd hR hF => ?_) ?_
  · skip
    simp only [FactsV, List.nil_append, List.cons_append, List.getD_cons_zero, List.getD_cons_succ, exists_eq_left, and_true, true_and, List.getElem?_toArray, List.getElem?_cons_zero, List.getElem?_cons_succ] at hF
    obtain ⟨v, hv, h1⟩ := hF
    exact ⟨by simp [Region.wanted, yielded], v, by simp [execOp, Act.eval, hv], trivial, hR.hand1 h1 (by decide) (by decide) (by decide)⟩
  refine exV_hand (fun _ => True) (fun a' d' W hd hR hF => ?_) ?_
  · skip
    simp only [FactsV, List.nil_append, List.cons_append, List.getD_cons_zero, List.getD_cons_succ, exists_eq_left, and_true, true_and, List.getElem?_toArray, List.getElem?_cons_zero, List.getElem?_cons_succ] at hF
    obtain ⟨v, hv, h1⟩ := hF
    exact ⟨by simp [Region.wanted, yielded], v, by simp [execOp, Act.eval, hv], trivial, hR.hand2 h1 (by decide) (by decide) (by decide)⟩
  show ∀ d W, _ → _ → _
  intro d w4 hA2 hR2
  simp only [FinV, List.nil_append, List.cons_append, List.getD_cons_zero, List.getD_cons_succ, forall_eq, forall_const, true_implies, forall_exists_index, and_imp, Nat.reduceAdd, Array.getD_eq_getD_getElem?, List.getElem?_toArray, List.getElem?_cons_zero, List.getElem?_cons_succ, Option.getD_some]
  clear hA2
  intro vp h8 vq h9 _ _ _ va _ _ _ _ vb _
  obtain ⟨p, rfl, hsp, hp⟩ := hR2.fst _ (hR2.hi _ h8)
  obtain ⟨q, rfl, hsq, hq⟩ := hR2.snd _ (hR2.hj _ h9)
  have hpq : p ≠ q := fun e => hR2.ne _ _ (hR2.hi _ h8) (hR2.hj _ h9) (by rw [e])
  have hlt3 : w.heap.size < w3.heap.size := HS3.out.lt
  have HP4 : Hid (RR w4 p l1 0) := Lib.hid ⟨l1, hsp, fun _ => rfl, by have := HL1.out; omega⟩
  have HQ4 : Hid (RR w4 q l2 0) := Lib.hid ⟨l2, hsq, fun _ => rfl, by have := HL2.out; omega⟩
  have HS4 := Lib.hid (HS3.out.below' hR2.low)
  have HF4 := Lib.hid (HF3.out.trans (hR2.low.mono HF3.out.size))
  have hp0 : w.heap.size < p := by omega
  have hq0 : w.heap.size < q := by omega
  clear h8 h9 hsp hsq hp hq hR2 hlt3 HS3 HF3
  go_wp2_with fail
  (with_reducible refine (HNA.out _ _ HP4.out).mono ?_)
  rintro e w5 ⟨rfl, hr, ho⟩
  have HP5 := Lib.hid hr
  have HQ5 := Lib.hid (HQ4.out.only ho hpq)
  have HS5 := Lib.hid (HS4.out.only ho (by omega))
  have HF5 := Lib.hid (Below.then_only HF4.out ho (by omega) HF4.out.size)
  clear hr ho HP4 HQ4 HS4 HF4
  go_wp2_with fail
  (with_reducible refine (HNB.out _ _ HQ5.out).mono ?_)
  rintro e w6 ⟨rfl, hr, ho⟩
  have HQ6 := Lib.hid hr
  have HP6 := Lib.hid (HP5.out.only ho (fun e => hpq e.symm))
  have HS6 := Lib.hid (HS5.out.only ho (by omega))
  have HF6 := Lib.hid (Below.then_only HF5.out ho (by omega) HF5.out.size)
  clear hr ho HQ5 HP5 HS5 HF5
  go_wp2_with fail
  (with_reducible refine (HNC.out _ _ HP6.out).mono ?_)
  rintro e w7 ⟨rfl, hr, ho⟩
  have HP7 := Lib.hid hr
  have HQ7 := Lib.hid (HQ6.out.only ho hpq)
  have HS7 := Lib.hid (HS6.out.only ho (by omega))
  have HF7 := Lib.hid (Below.then_only HF6.out ho (by omega) HF6.out.size)
  clear hr ho HP6 HQ6 HS6 HF6
  go_wp2_with fail
  (with_reducible refine (HND.out _ _ HQ7.out).mono ?_)
  rintro e w8 ⟨rfl, hr, ho⟩
  have HQ8 := Lib.hid hr
  have HP8 := Lib.hid (HP7.out.only ho (fun e => hpq e.symm))
  have HS8 := Lib.hid (HS7.out.only ho (by omega))
  have HF8 := Lib.hid (Below.then_only HF7.out ho (by omega) HF7.out.size)
  clear hr ho HQ7 HP7 HS7 HF7
  have hs := HS8.out
  have c0 : w8.cell? ⟨w.heap.size, 0, none⟩ = some (.int .i64 0) := hs.cell 0
  have c1 : w8.cell? ⟨w.heap.size, 1, none⟩ = some (.int .u64 0) := hs.cell 1
  have c2 : w8.cell? ⟨w.heap.size, 2, none⟩ = some (.string ⟨#[]⟩) := hs.cell 2
  have f0 := hs.warm 0
  have f1 := hs.warm 1
  have f2 := hs.warm 2
  clear hs
  go_wp2
  refine bodyPost_ret (v := .tuple #[.agg #[.int .i64 0, .int .u64 0, .string ⟨#[]⟩], .int .i64 6]) (by simp [results, Tryz.results11, go_sem, c0, c1, c2]) rfl ⟨rfl, ?_⟩
  exact ((HF8.out.setCell (Nat.le_refl _) _).setCell (Nat.le_refl _) _).setCell (Nat.le_refl _) _
theorem rget_good (n : Int) (b : List UInt8) (hl : b.length = 128) (hz : b ≠ List.replicate 128 0) (hs1 : soundB (b.take 64) = true) (hs2 : soundB (b.drop 64) = true) (h1 : (numOf (b.take 64) : Int) = n) (h2 : (numOf (b.drop 64) : Int) = n) (h3 : n < 4096) (h4 : verOf (b.take 64) = verOf (b.drop 64)) (w : World) : Calls Tryz.prog 11 #[.int .i64 n, .string (str b)] w fun e w' => e = .returned (.tuple #[.agg #[.int .i64 n, .int .u64 (verOf (b.take 64) : Int), .string (str ((b.take 64).take 48) ++ str ((b.drop 64).take 48))], .int .i64 0]) ∧ Below w.heap.size w w' := by
  have hsz : (str b).size = 128 := by rw [str_size, hl]
  have d1 : (((str b).size : Int) != 128) = false := by rw [hsz]; rfl
  obtain ⟨i0, hi, hz0, hz1, hz2⟩ := info_parts Tryz.info5
  have hmk := run_make (P := Tryz.prog) (w.alloc (.cells #[.int .i64 0, .int .u64 0, .string ⟨#[]⟩] 24)) 50 5 i0 _ Tryz.underlying50 hi hz0 .i64 .i64 128 128 (by omega) (by omega) (by rw [hz2]; omega) (by omega)
  simp only [show (128 : Int).toNat = 128 from rfl, hz1, Nat.mul_one, show (Value.int .u8 0).cells = #[Value.int .u8 0] from rfl, byteCells_made] at hmk
  have hcv := run_text_of_row (P := Tryz.prog) ((w.alloc (.cells #[.int .i64 0, .int .u64 0, .string ⟨#[]⟩] 24)).alloc (.cells (byteCells (List.replicate 128 0)) 5)) 50 9 5 5 (w.alloc (.cells #[.int .i64 0, .int .u64 0, .string ⟨#[]⟩] 24)).heap.size 128 128 (List.replicate 128 0) Tryz.underlying50 Tryz.underlying5 Tryz.underlying9 (Sits.fresh _ _ _) (by simp)
  obtain ⟨y, hy⟩ : ∃ y, y = str (List.replicate 128 0) := ⟨_, rfl⟩
  rw [← hy] at hcv
  obtain ⟨z, hzz⟩ : ∃ z, z = byteCells (List.replicate 128 0) := ⟨_, rfl⟩
  rw [← hzz] at hcv hmk
  simp only [World.size_alloc] at hcv hmk
  have hxy : ((str b).toList == y.toList) = false := eq_no (fun e => hz (str_inj (e.trans hy)))
  have HX1 : Hid ((str b).extract 0 64 = str (b.take 64)) := Lib.hid (by rw [str_extract, List.drop_zero])
  have HX2 : Hid ((str b).extract 64 128 = str (b.drop 64)) := Lib.hid (by rw [str_extract, List.take_of_length_le (by omega)])
  obtain ⟨hl1, hl2⟩ := sec_halves hl
  have hr1 := fun W => refread_all (str (b.take 64)) W (by rw [str_size]; omega)
  rw [(rd_sec hl1).1, (rd_sec hl1).2, hs1] at hr1
  have hr2 := fun W => refread_all (str (b.drop 64)) W (by rw [str_size]; omega)
  rw [(rd_sec hl2).1, (rd_sec hl2).2, hs2] at hr2
  simp only [if_true] at hr1
  simp only [if_true] at hr2
  obtain ⟨t1, ht1⟩ : ∃ t, t = (b.take 64).take 60 := ⟨_, rfl⟩
  obtain ⟨t2, ht2⟩ : ∃ t, t = (b.drop 64).take 60 := ⟨_, rfl⟩
  rw [← ht1] at hr1
  rw [← ht2] at hr2
  have HR1 := Lib.hid hr1
  have HR2 := Lib.hid hr2
  have hr11 : ((t1.drop 48).take 4) = ((b.take 64).drop 48).take 4 := by rw [ht1, List.drop_take, List.take_take]; rfl
  have hr12 : (((t1.drop 48).drop 4).take 8) = ((b.take 64).drop 52).take 8 := by rw [ht1, List.drop_take, List.drop_take, List.take_take, List.drop_drop]; rfl
  have HL1 : Hid ((t1.drop 48).length = 12) := Lib.hid (by rw [ht1, List.length_drop, List.length_take, hl1]; rfl)
  have hts1 : (str t1).size = 60 := by rw [str_size, ht1, List.length_take, hl1]; rfl
  have hte1 : (str t1).extract 48 60 = str (t1.drop 48) := by rw [str_extract, List.take_of_length_le (by rw [ht1, List.length_take]; omega)]
  have hth1 : (str t1).extract 0 48 = str ((b.take 64).take 48) := by rw [str_extract, List.drop_zero, ht1, List.take_take]; rfl
  have HTE1 := Lib.hid hte1
  have HTH1 := Lib.hid hth1
  have HTS1 := Lib.hid hts1
  obtain ⟨n1, hn1⟩ : ∃ v, v = numOf (b.take 64) := ⟨_, rfl⟩
  obtain ⟨v1, hv1⟩ : ∃ v, v = verOf (b.take 64) := ⟨_, rfl⟩
  obtain ⟨x1, hX1⟩ : ∃ v, v = str ((b.take 64).take 48) := ⟨_, rfl⟩
  have hnl1 : (n1 : Int) < 4294967296 := by have := numOf_lt (b.take 64); omega
  have hu1 : IntKind.i64.wrap (n1 : Int) = (n1 : Int) := by rw [IntKind.wrap_i64]; omega
  have HU1 : Hid (unleb ((t1.drop 48).take 4) = n1) := Lib.hid (by rw [hr11, hn1]; rfl)
  have HV1 : Hid (unleb (((t1.drop 48).drop 4).take 8) = v1) := Lib.hid (by rw [hr12, hv1]; rfl)
  rw [← hX1] at HTH1
  have hr21 : ((t2.drop 48).take 4) = ((b.drop 64).drop 48).take 4 := by rw [ht2, List.drop_take, List.take_take]; rfl
  have hr22 : (((t2.drop 48).drop 4).take 8) = ((b.drop 64).drop 52).take 8 := by rw [ht2, List.drop_take, List.drop_take, List.take_take, List.drop_drop]; rfl
  have HL2 : Hid ((t2.drop 48).length = 12) := Lib.hid (by rw [ht2, List.length_drop, List.length_take, hl2]; rfl)
  have hts2 : (str t2).size = 60 := by rw [str_size, ht2, List.length_take, hl2]; rfl
  have hte2 : (str t2).extract 48 60 = str (t2.drop 48) := by rw [str_extract, List.take_of_length_le (by rw [ht2, List.length_take]; omega)]
  have hth2 : (str t2).extract 0 48 = str ((b.drop 64).take 48) := by rw [str_extract, List.drop_zero, ht2, List.take_take]; rfl
  have HTE2 := Lib.hid hte2
  have HTH2 := Lib.hid hth2
  have HTS2 := Lib.hid hts2
  obtain ⟨n2, hn2⟩ : ∃ v, v = numOf (b.drop 64) := ⟨_, rfl⟩
  obtain ⟨v2, hv2⟩ : ∃ v, v = verOf (b.drop 64) := ⟨_, rfl⟩
  obtain ⟨x2, hX2⟩ : ∃ v, v = str ((b.drop 64).take 48) := ⟨_, rfl⟩
  have hnl2 : (n2 : Int) < 4294967296 := by have := numOf_lt (b.drop 64); omega
  have hu2 : IntKind.i64.wrap (n2 : Int) = (n2 : Int) := by rw [IntKind.wrap_i64]; omega
  have HU2 : Hid (unleb ((t2.drop 48).take 4) = n2) := Lib.hid (by rw [hr21, hn2]; rfl)
  have HV2 : Hid (unleb (((t2.drop 48).drop 4).take 8) = v2) := Lib.hid (by rw [hr22, hv2]; rfl)
  rw [← hX2] at HTH2
  have hxs : x1.size + x2.size ≤ 96 := by rw [hX1, hX2]; simp only [str_size, List.length_take]; omega
  rw [← hv1, ← hX1, ← hX2]
  rw [← hn1] at h1
  have dn1 : ((n1 : Int) != n) = false := by simp [h1]
  rw [← hn2] at h2
  have dn2 : ((n2 : Int) != n) = false := by simp [h2]
  have dn3 : decide (4096 ≤ n) = false := decide_eq_false (by omega)
  clear h1 h2 h3
  rw [← hv1, ← hv2] at h4
  have dv : ((v1 : Int) != (v2 : Int)) = false := by simp [h4]
  clear h4
  obtain ⟨x, hx⟩ : ∃ x, x = str b := ⟨_, rfl⟩
  rw [← hx] at hsz d1 hxy HX1 HX2 ⊢
  clear hi hz0 hz1 hz2 hl hl1 hl2 hz hx hy hzz hs1 hs2 hr1 hr2 hr11 hr12 hr21 hr22 ht1 ht2 hn1 hv1 hX1 hn2 hv2 hX2 hts1 hts2 hte1 hte2 hth1 hth2
  have HS1 : Hid (Sits ((w.alloc (.cells #[.int .i64 0, .int .u64 0, .string ⟨#[]⟩] 24)).alloc (.cells z 5)) w.heap.size 24 #[.int .i64 0, .int .u64 0, .string ⟨#[]⟩]) := Lib.hid ((Sits.fresh w _ _).alloc _)
  have HF1 : Hid (Below w.heap.size w ((w.alloc (.cells #[.int .i64 0, .int .u64 0, .string ⟨#[]⟩] 24)).alloc (.cells z 5))) := Lib.hid (((Below.refl w.heap.size w).alloc (Nat.le_refl _) _).alloc (by simp) _)
  obtain ⟨T1, hT1⟩ : ∃ T, T = str t1 := ⟨_, rfl⟩
  obtain ⟨T2, hT2⟩ : ∃ T, T = str t2 := ⟨_, rfl⟩
  rw [← hT1] at HR1 HTE1 HTH1 HTS1
  rw [← hT2] at HR2 HTE2 HTH2 HTS2
  obtain ⟨l1, hL1⟩ : ∃ l, l = t1.drop 48 := ⟨_, rfl⟩
  obtain ⟨l2, hL2⟩ : ∃ l, l = t2.drop 48 := ⟨_, rfl⟩
  rw [← hL1] at HTE1 HL1 HU1 HV1
  rw [← hL2] at HTE2 HL2 HU2 HV2
  clear hT1 hT2 hL1 hL2
  have HNA : Hid (∀ p W, RR W p l1 0 → Calls Tryz.prog 29 #[.pointer (some ⟨p, 0, none⟩), .int .i64 4] W fun r w' => r = .returned (.int .u64 (n1 : Int)) ∧ RR w' p (l1.drop 4) 0 ∧ Only p W w') := Lib.hid fun p W hW => by
    have := refnum_ok p 4 l1 W hW (by omega) (by have := HL1.out; omega)
    rw [HU1.out] at this
    exact this
  have HNB : Hid (∀ p W, RR W p l2 0 → Calls Tryz.prog 29 #[.pointer (some ⟨p, 0, none⟩), .int .i64 4] W fun r w' => r = .returned (.int .u64 (n2 : Int)) ∧ RR w' p (l2.drop 4) 0 ∧ Only p W w') := Lib.hid fun p W hW => by
    have := refnum_ok p 4 l2 W hW (by omega) (by have := HL2.out; omega)
    rw [HU2.out] at this
    exact this
  have HNC : Hid (∀ p W, RR W p (l1.drop 4) 0 → Calls Tryz.prog 29 #[.pointer (some ⟨p, 0, none⟩), .int .i64 8] W fun r w' => r = .returned (.int .u64 (v1 : Int)) ∧ RR w' p ((l1.drop 4).drop 8) 0 ∧ Only p W w') := Lib.hid fun p W hW => by
    have := refnum_ok p 8 (l1.drop 4) W hW (by omega) (by have := HL1.out; rw [List.length_drop]; omega)
    rw [HV1.out] at this
    exact this
  have HND : Hid (∀ p W, RR W p (l2.drop 4) 0 → Calls Tryz.prog 29 #[.pointer (some ⟨p, 0, none⟩), .int .i64 8] W fun r w' => r = .returned (.int .u64 (v2 : Int)) ∧ RR w' p ((l2.drop 4).drop 8) 0 ∧ Only p W w') := Lib.hid fun p W hW => by
    have := refnum_ok p 8 (l2.drop 4) W hW (by omega) (by have := HL2.out; rw [List.length_drop]; omega)
    rw [HV2.out] at this
    exact this
  go_enter Tryz.func11, Tryz.ntmps11
  go_wp2_with fail
  rw [HX1.out]
  refine (HR1.out _).mono ?_
  rintro e w2 ⟨rfl, hb⟩
  have HS2 := Lib.hid (HS1.out.below' hb)
  have HF2 := Lib.hid (HF1.out.trans (hb.mono HF1.out.size))
  clear hb HS1 HF1 hmk hcv
  go_wp2_with fail
  rw [HX2.out]
  refine (HR2.out _).mono ?_
  rintro e w3 ⟨rfl, hb⟩
  have HS3 := Lib.hid (HS2.out.below' hb)
  have HF3 := Lib.hid (HF2.out.trans (hb.mono HF2.out.size))
  clear hb HS2 HF2
  have hq1 := HTS1.out
  have hq2 := HTS2.out
  go_wp2_with fail
  refine wp_region_exV (by kernel_rfl) (TwoM 3 7 8 9 w3 63 63 #[.string (str l1), .int .i64 0] #[.string (str l2), .int .i64 0])
    [[(6, none)], [(47, some 0)], [(48, some 1)], [(49, some 2)], [(8, none)], [(51, some 4)], [(52, some 5)], [(53, some 6)], [(50, some 3)], [(54, some 7)]]
    [none, none, none, none, none, none, none, none, none, some 8, some 9, none, none, none, none, none, none, none, none, none, none, none, none, none, none, none, none, none, none, none, none, none, none, none, none, none, none, none, none, none, none, none, none, none, none, none, none, some 0, some 1, some 2, some 3, some 4, some 5, some 6, some 7, none, none, none, none, none, none, none, none, none, none, none, none, none, none, none, none, none, none, none, none, none, none, none, none, none, none, none, none, none, none, none, none, none, none, none] (by kernel_rfl) (by kernel_rfl) (TwoM.start (Below.refl _ _).drew) ?_
  iterate 2
    refine exV_pure (c := ?_) (fun _ _ _ h => h.pure (by decide) (by decide) (by decide) (by decide)) ?_ ?_
    rotate_left
    · intro a' d' W hR hF
      simp only [FactsV, List.nil_append, List.cons_append, List.getD_cons_zero, List.getD_cons_succ, exists_eq_left, and_true, true_and, List.getElem?_toArray, List.getElem?_cons_zero, List.getElem?_cons_succ] at hF
      refine ⟨?_, ?_⟩
      · simp [Region.wanted, yielded, hF]
      · go_simp
        with_reducible rfl
  iterate 1
    refine exV_pure (c := ?_) (fun _ _ _ h => h.pure (by decide) (by decide) (by decide) (by decide)) ?_ ?_
    rotate_left
    · intro a' d' W hR hF
      simp only [FactsV, List.nil_append, List.cons_append, List.getD_cons_zero, List.getD_cons_succ, exists_eq_left, and_true, true_and, List.getElem?_toArray, List.getElem?_cons_zero, List.getElem?_cons_succ] at hF
      rw [HTE1.out] at hF
      refine ⟨?_, ?_⟩
      · simp [Region.wanted, yielded, hF]
      · go_simp
        with_reducible rfl
  refine exV_step (fun _ => True) (fun a' d' W hd hR hF => ?_) ?_
  · skip
    simp only [FactsV, List.nil_append, List.cons_append, List.getD_cons_zero, List.getD_cons_succ, exists_eq_left, and_true, true_and, List.getElem?_toArray, List.getElem?_cons_zero, List.getElem?_cons_succ] at hF
    exact ⟨by simp [Region.wanted, yielded, hF], .pointer (some ⟨W.heap.size, 0, none⟩), W.alloc (.cells #[.string (str l1), .int .i64 0] 63), by go_simp, trivial, hR.one hd (by decide) (by decide) (by decide)⟩
  iterate 2
    refine exV_pure (c := ?_) (fun _ _ _ h => h.pure (by decide) (by decide) (by decide) (by decide)) ?_ ?_
    rotate_left
    · intro a' d' W hR hF
      simp only [FactsV, List.nil_append, List.cons_append, List.getD_cons_zero, List.getD_cons_succ, exists_eq_left, and_true, true_and, List.getElem?_toArray, List.getElem?_cons_zero, List.getElem?_cons_succ] at hF
      refine ⟨?_, ?_⟩
      · simp [Region.wanted, yielded, hF]
      · go_simp
        with_reducible rfl
  iterate 1
    refine exV_pure (c := ?_) (fun _ _ _ h => h.pure (by decide) (by decide) (by decide) (by decide)) ?_ ?_
    rotate_left
    · intro a' d' W hR hF
      simp only [FactsV, List.nil_append, List.cons_append, List.getD_cons_zero, List.getD_cons_succ, exists_eq_left, and_true, true_and, List.getElem?_toArray, List.getElem?_cons_zero, List.getElem?_cons_succ] at hF
      rw [HTE2.out] at hF
      refine ⟨?_, ?_⟩
      · simp [Region.wanted, yielded, hF]
      · go_simp
        with_reducible rfl
  refine exV_step (fun _ => True) (fun a' d' W hd hR hF => ?_) ?_
  · skip
    simp only [FactsV, List.nil_append, List.cons_append, List.getD_cons_zero, List.getD_cons_succ, exists_eq_left, and_true, true_and, List.getElem?_toArray, List.getElem?_cons_zero, List.getElem?_cons_succ] at hF
    exact ⟨by simp [Region.wanted, yielded, hF], .pointer (some ⟨W.heap.size, 0, none⟩), W.alloc (.cells #[.string (str l2), .int .i64 0] 63), by go_simp, trivial, hR.two hd (by decide) (by decide) (by decide)⟩
  refine exV_hand (fun _ => True) (fun a' d' W hd hR hF => ?_) ?_
  · skip
    simp only [FactsV, List.nil_append, List.cons_append, List.getD_cons_zero, List.getD_cons_succ, exists_eq_left, and_true, true_and, List.getElem?_toArray, List.getElem?_cons_zero, List.getElem?_cons_succ] at hF
    obtain ⟨v, hv, h1⟩ := hF
    exact ⟨by simp [Region.wanted, yielded], v, by simp [execOp, Act.eval, hv], trivial, hR.hand1 h1 (by decide) (by decide) (by decide)⟩
  refine exV_hand (fun _ => True) (fun a' d' W hd hR hF => ?_) ?_
  · skip
    simp only [FactsV, List.nil_append, List.cons_append, List.getD_cons_zero, List.getD_cons_succ, exists_eq_left, and_true, true_and, List.getElem?_toArray, List.getElem?_cons_zero, List.getElem?_cons_succ] at hF
    obtain ⟨v, hv, h1⟩ := hF
    exact ⟨by simp [Region.wanted, yielded], v, by simp [execOp, Act.eval, hv], trivial, hR.hand2 h1 (by decide) (by decide) (by decide)⟩
  show ∀ d W, _ → _ → _
  intro d w4 hA2 hR2
  simp only [FinV, List.nil_append, List.cons_append, List.getD_cons_zero, List.getD_cons_succ, forall_eq, forall_const, true_implies, forall_exists_index, and_imp, Nat.reduceAdd, Array.getD_eq_getD_getElem?, List.getElem?_toArray, List.getElem?_cons_zero, List.getElem?_cons_succ, Option.getD_some]
  clear hA2
  intro vp h8 vq h9 _ _ _ va _ _ _ _ vb _
  obtain ⟨p, rfl, hsp, hp⟩ := hR2.fst _ (hR2.hi _ h8)
  obtain ⟨q, rfl, hsq, hq⟩ := hR2.snd _ (hR2.hj _ h9)
  have hpq : p ≠ q := fun e => hR2.ne _ _ (hR2.hi _ h8) (hR2.hj _ h9) (by rw [e])
  have hlt3 : w.heap.size < w3.heap.size := HS3.out.lt
  have HP4 : Hid (RR w4 p l1 0) := Lib.hid ⟨l1, hsp, fun _ => rfl, by have := HL1.out; omega⟩
  have HQ4 : Hid (RR w4 q l2 0) := Lib.hid ⟨l2, hsq, fun _ => rfl, by have := HL2.out; omega⟩
  have HS4 := Lib.hid (HS3.out.below' hR2.low)
  have HF4 := Lib.hid (HF3.out.trans (hR2.low.mono HF3.out.size))
  have hp0 : w.heap.size < p := by omega
  have hq0 : w.heap.size < q := by omega
  clear h8 h9 hsp hsq hp hq hR2 hlt3 HS3 HF3
  go_wp2_with fail
  (with_reducible refine (HNA.out _ _ HP4.out).mono ?_)
  rintro e w5 ⟨rfl, hr, ho⟩
  have HP5 := Lib.hid hr
  have HQ5 := Lib.hid (HQ4.out.only ho hpq)
  have HS5 := Lib.hid (HS4.out.only ho (by omega))
  have HF5 := Lib.hid (Below.then_only HF4.out ho (by omega) HF4.out.size)
  clear hr ho HP4 HQ4 HS4 HF4
  go_wp2_with fail
  (with_reducible refine (HNB.out _ _ HQ5.out).mono ?_)
  rintro e w6 ⟨rfl, hr, ho⟩
  have HQ6 := Lib.hid hr
  have HP6 := Lib.hid (HP5.out.only ho (fun e => hpq e.symm))
  have HS6 := Lib.hid (HS5.out.only ho (by omega))
  have HF6 := Lib.hid (Below.then_only HF5.out ho (by omega) HF5.out.size)
  clear hr ho HQ5 HP5 HS5 HF5
  go_wp2_with fail
  (with_reducible refine (HNC.out _ _ HP6.out).mono ?_)
  rintro e w7 ⟨rfl, hr, ho⟩
  have HP7 := Lib.hid hr
  have HQ7 := Lib.hid (HQ6.out.only ho hpq)
  have HS7 := Lib.hid (HS6.out.only ho (by omega))
  have HF7 := Lib.hid (Below.then_only HF6.out ho (by omega) HF6.out.size)
  clear hr ho HP6 HQ6 HS6 HF6
  go_wp2_with fail
  (with_reducible refine (HND.out _ _ HQ7.out).mono ?_)
  rintro e w8 ⟨rfl, hr, ho⟩
  have HQ8 := Lib.hid hr
  have HP8 := Lib.hid (HP7.out.only ho (fun e => hpq e.symm))
  have HS8 := Lib.hid (HS7.out.only ho (by omega))
  have HF8 := Lib.hid (Below.then_only HF7.out ho (by omega) HF7.out.size)
  clear hr ho HQ7 HP7 HS7 HF7
  have hs := HS8.out
  have c0 : w8.cell? ⟨w.heap.size, 0, none⟩ = some (.int .i64 0) := hs.cell 0
  have c1 : w8.cell? ⟨w.heap.size, 1, none⟩ = some (.int .u64 0) := hs.cell 1
  have c2 : w8.cell? ⟨w.heap.size, 2, none⟩ = some (.string ⟨#[]⟩) := hs.cell 2
  have f0 := hs.warm 0
  have f1 := hs.warm 1
  have f2 := hs.warm 2
  clear hs
  clear c0 c1 c2 f0 f1 f2
  have hq1 := HTS1.out
  have hq2 := HTS2.out
  go_wp2_with fail
  refine wp_region_exV (by kernel_rfl) (OneS 8 (fun W => Below w.heap.size w W) w.heap.size 24 #[.int .i64 0, .int .u64 0, .string ⟨#[]⟩] #[.int .i64 n, .int .u64 (v1 : Int), .string (x1 ++ x2)])
    [[(0, none)], [(13, none)], [(6, none)], [(84, some 2)], [(8, none)], [(86, some 4)], [(85, some 3), (87, some 5)], [(82, some 0), (83, some 1), (88, some 6)], [(4, none), (89, some 7)], []]
    [none, none, none, none, none, some 9, none, none, none, none, none, none, none, none, none, none, none, none, none, none, none, none, none, none, none, none, none, none, none, none, none, none, none, none, none, none, none, none, none, none, none, none, none, none, none, none, none, none, none, none, none, none, none, none, none, none, none, none, none, none, none, none, none, none, none, none, none, none, none, none, none, none, none, none, none, none, none, none, none, none, none, none, some 0, some 1, some 2, some 3, some 4, some 5, some 6, some 7] (by kernel_rfl) (by kernel_rfl) (OneS.start HF8.out.drew HS8.out.drew) ?_
  iterate 3
    refine exV_pure (c := ?_) (fun _ _ _ h => h.pure (by decide)) ?_ ?_
    rotate_left
    · intro a' d' W hR hF
      simp only [FactsV, List.nil_append, List.cons_append, List.getD_cons_zero, List.getD_cons_succ, exists_eq_left, and_true, true_and, List.getElem?_toArray, List.getElem?_cons_zero, List.getElem?_cons_succ] at hF
      refine ⟨?_, ?_⟩
      · simp [Region.wanted, yielded, hF]
      · go_simp
        with_reducible rfl
  iterate 1
    refine exV_pure (c := ?_) (fun _ _ _ h => h.pure (by decide)) ?_ ?_
    rotate_left
    · intro a' d' W hR hF
      simp only [FactsV, List.nil_append, List.cons_append, List.getD_cons_zero, List.getD_cons_succ, exists_eq_left, and_true, true_and, List.getElem?_toArray, List.getElem?_cons_zero, List.getElem?_cons_succ] at hF
      have hz48 : 48 ≤ T1.size := by omega
      refine ⟨?_, ?_⟩
      · simp [Region.wanted, yielded, hF]
      · go_simp
        with_reducible rfl
  iterate 1
    refine exV_pure (c := ?_) (fun _ _ _ h => h.pure (by decide)) ?_ ?_
    rotate_left
    · intro a' d' W hR hF
      simp only [FactsV, List.nil_append, List.cons_append, List.getD_cons_zero, List.getD_cons_succ, exists_eq_left, and_true, true_and, List.getElem?_toArray, List.getElem?_cons_zero, List.getElem?_cons_succ] at hF
      refine ⟨?_, ?_⟩
      · simp [Region.wanted, yielded, hF]
      · go_simp
        with_reducible rfl
  iterate 1
    refine exV_pure (c := ?_) (fun _ _ _ h => h.pure (by decide)) ?_ ?_
    rotate_left
    · intro a' d' W hR hF
      simp only [FactsV, List.nil_append, List.cons_append, List.getD_cons_zero, List.getD_cons_succ, exists_eq_left, and_true, true_and, List.getElem?_toArray, List.getElem?_cons_zero, List.getElem?_cons_succ] at hF
      have hz48 : 48 ≤ T2.size := by omega
      refine ⟨?_, ?_⟩
      · simp [Region.wanted, yielded, hF]
      · go_simp
        with_reducible rfl
  iterate 1
    refine exV_pure (c := ?_) (fun _ _ _ h => h.pure (by decide)) ?_ ?_
    rotate_left
    · intro a' d' W hR hF
      simp only [FactsV, List.nil_append, List.cons_append, List.getD_cons_zero, List.getD_cons_succ, exists_eq_left, and_true, true_and, List.getElem?_toArray, List.getElem?_cons_zero, List.getElem?_cons_succ] at hF
      rw [HTH1.out, HTH2.out] at hF
      have hyy : ¬ 9223372036854775807 < x1.size + x2.size := by omega
      refine ⟨?_, ?_⟩
      · simp [Region.wanted, yielded, hF]
      · go_simp
        with_reducible rfl
  iterate 1
    refine exV_pure (c := ?_) (fun _ _ _ h => h.pure (by decide)) ?_ ?_
    rotate_left
    · intro a' d' W hR hF
      simp only [FactsV, List.nil_append, List.cons_append, List.getD_cons_zero, List.getD_cons_succ, exists_eq_left, and_true, true_and, List.getElem?_toArray, List.getElem?_cons_zero, List.getElem?_cons_succ] at hF
      refine ⟨?_, ?_⟩
      · simp [Region.wanted, yielded, hF]
      · go_simp
        with_reducible rfl
  refine exV_store (fun a' d' W hd hR hF => ?_) ?_
  · skip
    simp only [FactsV, List.nil_append, List.cons_append, List.getD_cons_zero, List.getD_cons_succ, exists_eq_left, and_true, true_and, List.getElem?_toArray, List.getElem?_cons_zero, List.getElem?_cons_succ] at hF
    have hs := hR.old hd
    have c0 : W.cell? ⟨w.heap.size, 0, none⟩ = some (.int .i64 0) := hs.cell 0
    have c1 : W.cell? ⟨w.heap.size, 1, none⟩ = some (.int .u64 0) := hs.cell 1
    have c2 : W.cell? ⟨w.heap.size, 2, none⟩ = some (.string ⟨#[]⟩) := hs.cell 2
    have f0 := hs.warm 0
    have f1 := hs.warm 1
    have f2 := hs.warm 2
    refine ⟨by simp [Region.wanted, yielded], ((W.setCell ⟨w.heap.size, 0, none⟩ (.int .i64 n)).setCell ⟨w.heap.size, 1, none⟩ (.int .u64 (v1 : Int))).setCell ⟨w.heap.size, 2, none⟩ (.string (x1 ++ x2)), by go_simp, ?_⟩
    exact OneS.store (((hR.1.setCell (Nat.le_refl _) _).setCell (Nat.le_refl _) _).setCell (Nat.le_refl _) _) (((hs.put 0 _).put 1 _).put 2 _)
  iterate 1
    refine exV_pure (c := ?_) (fun _ _ _ h => h.pure (by decide)) ?_ ?_
    rotate_left
    · intro a' d' W hR hF
      simp only [FactsV, List.nil_append, List.cons_append, List.getD_cons_zero, List.getD_cons_succ, exists_eq_left, and_true, true_and, List.getElem?_toArray, List.getElem?_cons_zero, List.getElem?_cons_succ] at hF
      refine ⟨?_, ?_⟩
      · simp [Region.wanted, yielded, hF]
      · go_simp
        with_reducible rfl
  show ∀ d W, _ → _ → _
  intro d w9 hA2 hR2
  simp only [FinV, List.nil_append, List.cons_append, List.getD_cons_zero, List.getD_cons_succ, forall_eq, forall_const, true_implies, forall_exists_index, and_imp, Nat.reduceAdd, Array.getD_eq_getD_getElem?, List.getElem?_toArray, List.getElem?_cons_zero, List.getElem?_cons_succ, Option.getD_some]
  have hD := hR2.done (hA2 8 (by decide))
  clear hR2 hA2
  intros
  have c0 : w9.cell? ⟨w.heap.size, 0, none⟩ = some (.int .i64 n) := hD.2.cell 0
  have c1 : w9.cell? ⟨w.heap.size, 1, none⟩ = some (.int .u64 (v1 : Int)) := hD.2.cell 1
  have c2 : w9.cell? ⟨w.heap.size, 2, none⟩ = some (.string (x1 ++ x2)) := hD.2.cell 2
  have HF := Lib.hid hD.1
  clear hD
  go_wp2
  refine bodyPost_ret (v := .tuple #[.agg #[.int .i64 n, .int .u64 (v1 : Int), .string (x1 ++ x2)], .int .i64 0]) (by simp [results, Tryz.results11, go_sem, c0, c1, c2]) rfl ⟨rfl, HF.out⟩
theorem rgetb_any (n : Int) (b : List UInt8) (w : World) : Calls Tryz.prog 11 #[.int .i64 n, .string (str b)] w fun e w' => e = .returned (.tuple #[aggI (getF n b).1, .int .i64 ((getF n b).2 : Int)]) ∧ Below w.heap.size w w' := by
  unfold getF
  by_cases hl : b.length = 128
  · rw [if_neg (by omega)]
    by_cases hz : b = List.replicate 128 0
    · rw [if_pos hz]
      exact rget_zero n b hl hz w
    · rw [if_neg hz]
      cases hs1 : soundB (b.take 64)
      · rw [if_pos rfl]
        exact rget_bad1 n b hl hz hs1 w
      · rw [if_neg (by simp)]
        cases hs2 : soundB (b.drop 64)
        · rw [if_pos rfl]
          exact rget_bad2 n b hl hz hs1 hs2 w
        · rw [if_neg (by simp)]
          by_cases h1 : (numOf (b.take 64) : Int) = n
          · by_cases h2 : (numOf (b.drop 64) : Int) = n
            · by_cases h3 : n < 4096
              · have hb : blockB n = true := blockB_iff.2 ⟨by omega, h3⟩
                rw [if_neg (by simp [h1, h2, hb])]
                by_cases h4 : verOf (b.take 64) = verOf (b.drop 64)
                · rw [if_neg (by simp [h4])]
                  have h5 := rget_good n b hl hz hs1 hs2 h1 h2 h3 h4 w
                  rw [str_append, List.take_take] at h5
                  exact h5
                · rw [if_pos h4]
                  exact rget_torn n b hl hz hs1 hs2 h1 h2 h3 h4 w
              · rw [if_pos (.inl (by simp [blockB, h3]))]
                exact rget_form4 n b hl hz hs1 hs2 h1 h2 (by omega) w
            · rw [if_pos (.inr (.inr h2))]
              exact rget_form2 n b hl hz hs1 hs2 h1 h2 w
          · rw [if_pos (.inr (.inl h1))]
            exact rget_form1 n b hl hz hs1 hs2 h1 w
  · rw [if_pos hl]
    exact rget_short n b hl w
theorem rputb_any (i : Im) (hv : (i.v : Int) < 18446744073709551616) (w : World) : Calls Tryz.prog 9 #[aggI i] w fun e w' => e = .returned (.tuple #[.string (str (bputF i).1), .int .i64 ((bputF i).2 : Int)]) ∧ Below w.heap.size w w' := by
  unfold bputF
  cases h : okI i
  · rw [if_neg (by simp)]
    exact rputb_bad i h w
  · rw [if_pos rfl]
    exact rputb_ok i h hv w
end Go.Proofs.YtmlhncheodpbpaaGreat
