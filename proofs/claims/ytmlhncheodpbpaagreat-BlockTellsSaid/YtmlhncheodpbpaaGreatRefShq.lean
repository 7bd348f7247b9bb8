/- The document's own shapes (commonsref8): PutShape of a shape that may be: the same bytes. -/
import Derived.Test.YtmlhncheodpbpaaGreatRefShp
import Derived.Lib.SlBytesConst
namespace Go.Proofs.YtmlhncheodpbpaaGreat
open Go Go.RowKit SupP
set_option maxRecDepth 100000
set_option maxHeartbeats 1000000
set_option linter.unusedSimpArgs false

theorem rputshape_ok (s : Sh) (h : Valid s) (w : World) : Calls Tryz.prog 36 #[aggH s] w fun e w' => e = .returned (.tuple #[.string (superS s), .int .i64 0]) ∧ Below w.heap.size w w' := by
  have gv := fun W : World => rvalid_ok s h W
  have hst : ∀ W : World, Calls Tryz.prog 25 #[.string (str (textH s)), .int .i64 64] W fun e w' => e = .returned (.tuple #[.string (superS s), .int .i64 0]) ∧ Below W.heap.size W w' := fun W => by
    have hz : (str (textH s)).size = 28 := by rw [str_size, textH_len]
    have := refstamp_any (str (textH s)) 32 W (by omega)
    rw [hz] at this
    exact this
  obtain ⟨n, b, l, c, t⟩ := s
  obtain ⟨h1, h2, h3, h4, h5, h6, h7, h8, h9, h10⟩ := h
  simp only at h1 h2 h3 h4 h5 h6 h7 h8 h9 h10
  obtain ⟨n, rfl⟩ := Int.eq_ofNat_of_zero_le (show 0 ≤ n by omega)
  obtain ⟨b, rfl⟩ := Int.eq_ofNat_of_zero_le (show 0 ≤ b by omega)
  obtain ⟨l, rfl⟩ := Int.eq_ofNat_of_zero_le (show 0 ≤ l by omega)
  obtain ⟨c, rfl⟩ := Int.eq_ofNat_of_zero_le (show 0 ≤ c by omega)
  obtain ⟨t, rfl⟩ := Int.eq_ofNat_of_zero_le (show 0 ≤ t by omega)
  have htx : textH ⟨n, b, l, c, t⟩ = markH ++ leb 4 n ++ leb 4 b ++ leb 4 l ++ leb 4 c ++ leb 4 t := by simp [textH, bytesH, numsH]
  rw [htx] at hst
  unfold aggH at gv ⊢
  simp only at gv ⊢
  obtain ⟨y, hy⟩ : ∃ y, y = superS ⟨n, b, l, c, t⟩ := ⟨_, rfl⟩
  rw [← hy] at hst ⊢
  have HV := Lib.hid gv
  have HST := Lib.hid hst
  have HNU : Hid (∀ (base q : Nat) (bs : List UInt8) (v : Nat) (W : World), v ≤ 5000 → bs.length ≤ 100 → WX W base q bs → Calls Tryz.prog 24 #[.pointer (some ⟨q, 0, none⟩), .int .u64 (v : Int), .int .i64 4] W fun r w' => r = .returned (.tuple #[]) ∧ WX w' base q (bs ++ leb 4 v) ∧ Below base W w') := Lib.hid fun base q bs v W hv hl hW =>
    wxnum_ok base q bs v 4 W hW (by omega) (by omega) (pow_four (by omega)) (by omega)
  have un : IntKind.u64.wrap (n : Int) = (n : Int) := by rw [IntKind.wrap_u64]; omega
  have HXn : Hid (n ≤ 5000) := Lib.hid (by omega)
  have ub : IntKind.u64.wrap (b : Int) = (b : Int) := by rw [IntKind.wrap_u64]; omega
  have HXb : Hid (b ≤ 5000) := Lib.hid (by omega)
  have ul : IntKind.u64.wrap (l : Int) = (l : Int) := by rw [IntKind.wrap_u64]; omega
  have HXl : Hid (l ≤ 5000) := Lib.hid (by omega)
  have uc : IntKind.u64.wrap (c : Int) = (c : Int) := by rw [IntKind.wrap_u64]; omega
  have HXc : Hid (c ≤ 5000) := Lib.hid (by omega)
  have ut : IntKind.u64.wrap (t : Int) = (t : Int) := by rw [IntKind.wrap_u64]; omega
  have HXt : Hid (t ≤ 5000) := Lib.hid (by omega)
  have HL4 : Hid (∀ v, (leb 4 v).length = 4) := Lib.hid (leb_length 4)
  clear gv hst htx hy h1 h2 h3 h4 h5 h6 h7 h8 h9 h10
  have HS : Hid (Sits (w.alloc (.cells #[.int .i64 n, .int .i64 b, .int .i64 l, .int .i64 c, .int .i64 t] 37)) w.heap.size 37 #[.int .i64 n, .int .i64 b, .int .i64 l, .int .i64 c, .int .i64 t]) := Lib.hid (Sits.fresh w _ _)
  have HB : Hid (Below w.heap.size w (w.alloc (.cells #[.int .i64 n, .int .i64 b, .int .i64 l, .int .i64 c, .int .i64 t] 37))) := Lib.hid ((Below.refl w.heap.size w).alloc (Nat.le_refl _) _)
  go_enter Tryz.func36, Tryz.ntmps36
  go_wp2_with fail
  (with_reducible refine (HV.out _).mono ?_)
  rintro e w1 ⟨rfl, hb⟩
  have HS1 := Lib.hid (HS.out.below' hb)
  have HB1 := Lib.hid (HB.out.trans (hb.mono HB.out.size))
  clear hb HS HB
  have hlt : w.heap.size < w1.heap.size := HS1.out.lt
  have hcv0 := Lib.run_convert_bytes_const (P := Tryz.prog) w1 50 5 #[.int .u8 67, .int .u8 79, .int .u8 77, .int .u8 77, .int .u8 79, .int .u8 78, .int .u8 83, .int .u8 49] 8 8 Tryz.underlying50 Tryz.underlying5
  rw [show (#[.int .u8 67, .int .u8 79, .int .u8 77, .int .u8 77, .int .u8 79, .int .u8 78, .int .u8 83, .int .u8 49] : Array Value).size = 8 from rfl] at hcv0
  have hrow : RowM (w1.alloc (.cells #[.int .u8 67, .int .u8 79, .int .u8 77, .int .u8 77, .int .u8 79, .int .u8 78, .int .u8 83, .int .u8 49] 5 (8, 8 + 1))) w1.heap.size (.slice (some ⟨w1.heap.size, 0, none⟩) 8 8) markH := .inr ⟨w1.heap.size, 8, #[.int .u8 67, .int .u8 79, .int .u8 77, .int .u8 77, .int .u8 79, .int .u8 78, .int .u8 83, .int .u8 49], (8, 8 + 1), rfl, Nat.le_refl _, heap_alloc_new w1 _, .inr (Nat.le_refl _), by decide, by decide, by decide, rfl⟩
  have hw0 := WX.make (bs := markH) (A := some ⟨w1.heap.size, 0, none⟩) (cap := 8) hrow (by rw [World.size_alloc]; omega) (by decide)
  rw [World.size_alloc] at hw0
  have hA : Below w1.heap.size w1 ((w1.alloc (.cells #[.int .u8 67, .int .u8 79, .int .u8 77, .int .u8 77, .int .u8 79, .int .u8 78, .int .u8 83, .int .u8 49] 5 (8, 8 + 1))).alloc (.cells #[.slice (some ⟨w1.heap.size, 0, none⟩) markH.length 8, .int .i64 0] 56)) := ((Below.refl _ w1).alloc (Nat.le_refl _) _).alloc (by simp) _
  have s2 := HS1.out.below' hA
  rw [show markH.length = 8 from rfl] at hw0 hA s2
  have HW0 := Lib.hid hw0
  have HB2 := Lib.hid (HB1.out.trans (hA.mono HB1.out.size))
  have HS2 := Lib.hid s2
  have c0 := s2.cell 0
  have c1 := s2.cell 1
  simp only [List.getElem?_toArray, List.getElem?_cons_zero, List.getElem?_cons_succ] at c0 c1
  clear hrow hw0 hA s2
  go_wp2_with fail
  clear c0 c1 hcv0
  refine (HNU.out _ _ _ _ _ HXn.out (by simp only [List.length_append, HL4.out, show markH.length = 8 from rfl]; omega) HW0.out).mono ?_
  rintro e w2 ⟨rfl, hw, hb⟩
  have HW1 := Lib.hid hw
  have HB3 := Lib.hid (HB2.out.trans (hb.mono HB1.out.size))
  have HS3 := Lib.hid (HS2.out.below hb hlt)
  clear hw hb HW0 HB2 HS2
  have c1 : w2.cell? ⟨w.heap.size, 1, none⟩ = some (.int .i64 (b : Int)) := HS3.out.cell 1
  go_wp2_with fail
  clear c1
  refine (HNU.out _ _ _ _ _ HXb.out (by simp only [List.length_append, HL4.out, show markH.length = 8 from rfl]; omega) HW1.out).mono ?_
  rintro e w3 ⟨rfl, hw, hb⟩
  have HW2 := Lib.hid hw
  have HB4 := Lib.hid (HB3.out.trans (hb.mono HB1.out.size))
  have HS4 := Lib.hid (HS3.out.below hb hlt)
  clear hw hb HW1 HB3 HS3
  have c2 : w3.cell? ⟨w.heap.size, 2, none⟩ = some (.int .i64 (l : Int)) := HS4.out.cell 2
  go_wp2_with fail
  clear c2
  refine (HNU.out _ _ _ _ _ HXl.out (by simp only [List.length_append, HL4.out, show markH.length = 8 from rfl]; omega) HW2.out).mono ?_
  rintro e w4 ⟨rfl, hw, hb⟩
  have HW3 := Lib.hid hw
  have HB5 := Lib.hid (HB4.out.trans (hb.mono HB1.out.size))
  have HS5 := Lib.hid (HS4.out.below hb hlt)
  clear hw hb HW2 HB4 HS4
  have c3 : w4.cell? ⟨w.heap.size, 3, none⟩ = some (.int .i64 (c : Int)) := HS5.out.cell 3
  go_wp2_with fail
  clear c3
  refine (HNU.out _ _ _ _ _ HXc.out (by simp only [List.length_append, HL4.out, show markH.length = 8 from rfl]; omega) HW3.out).mono ?_
  rintro e w5 ⟨rfl, hw, hb⟩
  have HW4 := Lib.hid hw
  have HB6 := Lib.hid (HB5.out.trans (hb.mono HB1.out.size))
  have HS6 := Lib.hid (HS5.out.below hb hlt)
  clear hw hb HW3 HB5 HS5
  have c4 : w5.cell? ⟨w.heap.size, 4, none⟩ = some (.int .i64 (t : Int)) := HS6.out.cell 4
  go_wp2_with fail
  clear c4
  refine (HNU.out _ _ _ _ _ HXt.out (by simp only [List.length_append, HL4.out, show markH.length = 8 from rfl]; omega) HW4.out).mono ?_
  rintro e w6 ⟨rfl, hw, hb⟩
  have HW5 := Lib.hid hw
  have HB7 := Lib.hid (HB6.out.trans (hb.mono HB1.out.size))
  have HS7 := Lib.hid (HS6.out.below hb hlt)
  clear hw hb HW4 HB6 HS6
  obtain ⟨A4, cap4, t0, hcv⟩ := wx_text _ _ _ _ HW5.out
  generalize (markH ++ leb 4 n ++ leb 4 b ++ leb 4 l ++ leb 4 c ++ leb 4 t).length = n4 at t0 hcv
  obtain ⟨z, hz⟩ : ∃ z, z = str (markH ++ leb 4 n ++ leb 4 b ++ leb 4 l ++ leb 4 c ++ leb 4 t) := ⟨_, rfl⟩
  rw [← hz] at hcv HST
  clear hz HW5
  go_wp2_with fail
  clear t0 hcv
  (with_reducible refine (HST.out _).mono ?_)
  rintro e w7 ⟨rfl, hb⟩
  have HF := Lib.hid (HB7.out.trans (hb.mono HB7.out.size))
  clear hb
  go_wp2
  go_ret2
  exact ⟨rfl, HF.out⟩
end Go.Proofs.YtmlhncheodpbpaaGreat
