/- The document's own blocks (commonsref8): PutBlock: the same bytes. -/
import Derived.Test.YtmlhncheodpbpaaGreatGC
import Derived.Test.YtmlhncheodpbpaaGreatRefWX
import Derived.Test.YtmlhncheodpbpaaGreatRefRN
namespace Go.Proofs.YtmlhncheodpbpaaGreat
open Go Go.RowKit
set_option maxRecDepth 100000
set_option maxHeartbeats 1000000
set_option linter.unusedSimpArgs false

theorem rputb_bad (i : Im) (h : okI i = false) (w : World) : Calls Tryz.prog 9 #[aggI i] w fun e w' => e = .returned (.tuple #[.string ⟨#[]⟩, .int .i64 1]) ∧ Below w.heap.size w w' := by
  obtain ⟨b, v, d⟩ := i
  unfold aggI
  simp only
  unfold okI at h
  simp only at h
  unfold blockB at h
  by_cases h1 : 0 ≤ b
  · have d1 : decide (b < 0) = false := decide_eq_false (by omega)
    rw [decide_eq_true h1, Bool.true_and] at h
    by_cases h2 : b < 4096
    · have d2 : decide (4096 ≤ b) = false := decide_eq_false (by omega)
      rw [decide_eq_true h2, Bool.true_and] at h
      have hl := of_decide_eq_false h
      have hne : (((str d).size : Int) != 96) = true := by rw [str_size]; simp only [bne_iff_ne]; omega
      clear h hl h1 h2
      go_enter Tryz.func9, Tryz.ntmps9
      go_wp2
      go_ret2
      exact ⟨rfl, (Below.refl _ w).alloc (Nat.le_refl _) _⟩
    · have d2 : decide (4096 ≤ b) = true := decide_eq_true (by omega)
      clear h h1 h2
      go_enter Tryz.func9, Tryz.ntmps9
      go_wp2
      go_ret2
      exact ⟨rfl, (Below.refl _ w).alloc (Nat.le_refl _) _⟩
  · have d1 : decide (b < 0) = true := decide_eq_true (by omega)
    clear h h1
    go_enter Tryz.func9, Tryz.ntmps9
    go_wp2
    go_ret2
    exact ⟨rfl, (Below.refl _ w).alloc (Nat.le_refl _) _⟩
theorem rstamp_sec (b : Int) (v : Nat) {x : List UInt8} (h : x.length = 48) (w : World) : Calls Tryz.prog 25 #[.string (str (x ++ (leb 4 b.toNat ++ leb 8 v))), .int .i64 64] w fun e w' => e = .returned (.tuple #[.string (str (secL b v x)), .int .i64 0]) ∧ Below w.heap.size w w' := by
  have e : x ++ (leb 4 b.toNat ++ leb 8 v) = x ++ ownL b v := rfl
  have hz : (str (x ++ ownL b v)).size = 60 := by rw [str_size, List.length_append, ownL_len, h]
  have := refstamp_any (str (x ++ ownL b v)) 0 w (by omega)
  rw [hz] at this
  rw [e]
  refine this.mono fun e w' ⟨he, hb⟩ => ⟨?_, hb⟩
  rw [he, stampS, fill0, List.replicate_zero, str_append, List.append_nil, str_list, str_append, secL]
theorem rputb_ok (i : Im) (h : okI i = true) (hv : (i.v : Int) < 18446744073709551616) (w : World) : Calls Tryz.prog 9 #[aggI i] w fun e w' => e = .returned (.tuple #[.string (str (putL i)), .int .i64 0]) ∧ Below w.heap.size w w' := by
  obtain ⟨hb, hl⟩ := okI_iff.1 h
  obtain ⟨b, v, d⟩ := i
  simp only at hb hl hv
  unfold aggI putL
  simp only
  obtain ⟨b, rfl⟩ := Int.eq_ofNat_of_zero_le hb.1
  have hb4 : (b : Int) < 4096 := hb.2
  have d1 : decide ((b : Int) < 0) = false := decide_eq_false (by omega)
  have d2 : decide (4096 ≤ (b : Int)) = false := decide_eq_false (by omega)
  have hsz : (str d).size = 96 := by rw [str_size, hl]
  have hne : (((str d).size : Int) != 96) = false := by rw [hsz]; rfl
  have hx1 : (str d).extract 0 48 = str (d.take 48) := by rw [str_extract, List.drop_zero]
  have hx2 : (str d).extract 48 96 = str (d.drop 48) := by rw [str_extract, List.take_of_length_le (by omega)]
  have hu : IntKind.u64.wrap (b : Int) = (b : Int) := by rw [IntKind.wrap_u64]; omega
  have h4 : b < 256 ^ 4 := by have h4 : (256 : Nat) ^ 4 = 4294967296 := rfl; omega
  have h8 : v < 256 ^ 8 := by have h8 : (256 : Nat) ^ 8 = 18446744073709551616 := rfl; omega
  have l1 : (d.take 48).length = 48 := by rw [List.length_take]; omega
  have l2 : (d.drop 48).length = 48 := by rw [List.length_drop]; omega
  have HN4 : Hid (∀ (base q : Nat) (x : List UInt8) (W : World), x.length = 48 → WX W base q x → Calls Tryz.prog 24 #[.pointer (some ⟨q, 0, none⟩), .int .u64 (b : Int), .int .i64 4] W fun r w' => r = .returned (.tuple #[]) ∧ WX w' base q (x ++ leb 4 b) ∧ Below base W w') := Lib.hid fun base q x W hx hW =>
    wxnum_ok base q x b 4 W hW (by omega) (by omega) h4 (by omega)
  have HN8 : Hid (∀ (base q : Nat) (x : List UInt8) (W : World), x.length = 48 → WX W base q (x ++ leb 4 b) → Calls Tryz.prog 24 #[.pointer (some ⟨q, 0, none⟩), .int .u64 (v : Int), .int .i64 8] W fun r w' => r = .returned (.tuple #[]) ∧ WX w' base q (x ++ leb 4 b ++ leb 8 v) ∧ Below base W w') := Lib.hid fun base q x W hx hW =>
    wxnum_ok base q _ v 8 W hW (by omega) hv h8 (by rw [List.length_append, leb_length]; omega)
  have hs1 := rstamp_sec (b : Int) v l1
  have hs2 := rstamp_sec (b : Int) v l2
  simp only [Int.toNat_natCast] at hs1 hs2
  have HS1 := Lib.hid hs1
  have HS2 := Lib.hid hs2
  have HX1 := Lib.hid hx1
  have HX2 := Lib.hid hx2
  have HL1 := Lib.hid l1
  have HL2 := Lib.hid l2
  have HSZ := Lib.hid hsz
  obtain ⟨x, hx⟩ : ∃ x, x = str d := ⟨_, rfl⟩
  rw [← hx] at hne HSZ HX1 HX2
  rw [← hx]
  obtain ⟨x1, hX1⟩ : ∃ x, x = d.take 48 := ⟨_, rfl⟩
  obtain ⟨x2, hX2⟩ : ∃ x, x = d.drop 48 := ⟨_, rfl⟩
  rw [← hX1] at HX1 HL1 HS1
  rw [← hX2] at HX2 HL2 HS2
  rw [← hX1, ← hX2]
  obtain ⟨y1, hy1⟩ : ∃ y, y = secL (b : Int) v x1 := ⟨_, rfl⟩
  obtain ⟨y2, hy2⟩ : ∃ y, y = secL (b : Int) v x2 := ⟨_, rfl⟩
  have hz1 : y1.length = 64 := hy1 ▸ secL_len _ _ HL1.out
  have hz2 : y2.length = 64 := hy2 ▸ secL_len _ _ HL2.out
  rw [← hy1] at HS1
  rw [← hy2] at HS2
  rw [← hy1, ← hy2]
  have HZ1 : Hid ((str y1).size = 64) := Lib.hid (by rw [str_size, hz1])
  have HZ2 : Hid ((str y2).size = 64) := Lib.hid (by rw [str_size, hz2])
  clear hs1 hs2 h hb hl hsz hx1 hx2 h4 h8 l1 l2 hx hX1 hX2 hy1 hy2 hz1 hz2 hv
  obtain ⟨wa, hwa⟩ : ∃ wa, wa = w.alloc (.cells #[.int .i64 (b : Int), .int .u64 (v : Int), .string x] 24) := ⟨_, rfl⟩
  have HA : Hid (Sits wa w.heap.size 24 #[.int .i64 (b : Int), .int .u64 (v : Int), .string x]) := Lib.hid (hwa ▸ Sits.fresh w _ _)
  have HBA : Hid (Below w.heap.size w wa) := Lib.hid (hwa ▸ (Below.refl _ w).alloc (Nat.le_refl _) _)
  go_enter Tryz.func9, Tryz.ntmps9
  go_wp2_with fail
  rw [← hwa]
  clear hwa
  have c0 := HA.out.cell 0
  have c2 := HA.out.cell 2
  simp only [List.getElem?_toArray, List.getElem?_cons_zero, List.getElem?_cons_succ] at c0 c2
  go_wp2
  clear c0 c2 hne d1 d2
  go_loopw [4, 5] (fun s i wr => ((i = .int .i64 0 ∧ s = .string ⟨#[]⟩) ∨ (i = .int .i64 1 ∧ s = .string (str y1)) ∨ (i = .int .i64 2 ∧ s = .string (str (y1 ++ y2)))) ∧ Hid (Below wa.heap.size wa wr)) (fun _ i _ => 2 - (intOf i).toNat)
  case atStart => exact ⟨.inl ⟨rfl, rfl⟩, Lib.hid ⟨rfl, rfl, rfl, Nat.le_refl _, fun _ _ => rfl⟩⟩
  case round =>
    obtain ⟨hc, hI⟩ := hrel
    rcases hc with ⟨rfl, rfl⟩ | ⟨rfl, rfl⟩ | ⟨rfl, rfl⟩
    · have hA := HA.out.below' hI.out
      have c2 : wr.cell? ⟨w.heap.size, 2, none⟩ = some (.string x) := hA.cell 2
      have hz := HSZ.out
      have hx1 := HX1.out
      obtain ⟨A, cap, W1, hcv, hrow, hb1, hsz1⟩ : ∃ A cap W1, (convert 9 50 (.string (str x1))).run Tryz.prog wr = .ok (.slice A 48 cap) W1 ∧ RowM W1 wr.heap.size (.slice A x1.length cap) x1 ∧ Below wr.heap.size wr W1 ∧ W1.heap.size = wr.heap.size + 1 := by
        obtain ⟨v0, W1, h1, h2, h3, h4, -⟩ := RowM.of_text wr x1 (by have := HL1.out; omega)
        obtain ⟨A, cap, rfl⟩ := h2.form
        rw [HL1.out] at h1
        exact ⟨A, cap, W1, h1, h2, h3, h4⟩
      have hw0 := WX.make hrow (by omega) (by have := HL1.out; omega)
      rw [HL1.out] at hw0
      have HW0 := Lib.hid hw0
      have HB1 := Lib.hid hb1
      have hI2 := Lib.hid (hI.out.trans (hb1.mono hI.out.size))
      have HA1 := Lib.hid (hA.below' hb1)
      have hlt1 : wr.heap.size < W1.heap.size := by omega
      clear hrow hb1 hw0 hsz1 hA
      have a0 : (W1.alloc (.cells #[.slice A 48 cap, .int .i64 0] 56)).cell? ⟨w.heap.size, 0, none⟩ = some (.int .i64 (b : Int)) := (HA1.out.alloc _).cell 0
      go_wp2_with fail
      clear c2 hcv hz a0
      obtain ⟨W2, hW2⟩ : ∃ W2, W2 = W1.alloc (.cells #[.slice A 48 cap, .int .i64 0] 56) := ⟨_, rfl⟩
      have HW2 : Hid (WX W2 wr.heap.size W1.heap.size x1) := Lib.hid (hW2 ▸ HW0.out)
      have HA2 : Hid (Sits W2 w.heap.size 24 #[.int .i64 (b : Int), .int .u64 (v : Int), .string x]) := Lib.hid (hW2 ▸ HA1.out.alloc _)
      have HI2 : Hid (Below wa.heap.size wa W2) := Lib.hid (hW2 ▸ hI2.out.alloc hI2.out.size _)
      rw [← hW2]
      clear hW2 HW0 HA1 hI2
      refine (HN4.out _ _ _ _ HL1.out HW2.out).mono ?_
      rintro e W3 ⟨rfl, hw, hb⟩
      have HW3 := Lib.hid hw
      have HA3 := Lib.hid (HA2.out.below hb (by have := hI.out.size; have := HA.out.lt; omega))
      have HI3 := Lib.hid (HI2.out.trans (hb.mono hI.out.size))
      have a1 : W3.cell? ⟨w.heap.size, 1, none⟩ = some (.int .u64 (v : Int)) := HA3.out.cell 1
      clear hw hb HW2 HA2 HI2
      go_wp2_with fail
      clear a1
      refine (HN8.out _ _ _ _ HL1.out HW3.out).mono ?_
      rintro e W4 ⟨rfl, hw, hb⟩
      have HI4 := Lib.hid (HI3.out.trans (hb.mono hI.out.size))
      obtain ⟨A4, cap4, t0, hcv⟩ := wx_text _ _ _ _ hw
      generalize (x1 ++ leb 4 b ++ leb 8 v).length = n4 at t0 hcv
      clear hw hb HW3 HA3 HI3
      go_wp2_with fail
      clear t0 hcv
      (with_reducible refine (HS1.out _).mono ?_)
      rintro e W5 ⟨rfl, hb⟩
      have HI5 := Lib.hid (HI4.out.trans (hb.mono HI4.out.size))
      clear hb HI4
      have hq1 := HZ1.out
      have hq2 := HZ2.out
      go_wp2
      go_roundw
      case measure => simp [intOf]
      case rel => exact ⟨.inr (.inl ⟨rfl, by first | rfl | (rw [HNIL.out])⟩), HI5⟩
    · have hA := HA.out.below' hI.out
      have c2 : wr.cell? ⟨w.heap.size, 2, none⟩ = some (.string x) := hA.cell 2
      have hz := HSZ.out
      have hx1 := HX2.out
      obtain ⟨A, cap, W1, hcv, hrow, hb1, hsz1⟩ : ∃ A cap W1, (convert 9 50 (.string (str x2))).run Tryz.prog wr = .ok (.slice A 48 cap) W1 ∧ RowM W1 wr.heap.size (.slice A x2.length cap) x2 ∧ Below wr.heap.size wr W1 ∧ W1.heap.size = wr.heap.size + 1 := by
        obtain ⟨v0, W1, h1, h2, h3, h4, -⟩ := RowM.of_text wr x2 (by have := HL2.out; omega)
        obtain ⟨A, cap, rfl⟩ := h2.form
        rw [HL2.out] at h1
        exact ⟨A, cap, W1, h1, h2, h3, h4⟩
      have hw0 := WX.make hrow (by omega) (by have := HL2.out; omega)
      rw [HL2.out] at hw0
      have HW0 := Lib.hid hw0
      have HB1 := Lib.hid hb1
      have hI2 := Lib.hid (hI.out.trans (hb1.mono hI.out.size))
      have HA1 := Lib.hid (hA.below' hb1)
      have hlt1 : wr.heap.size < W1.heap.size := by omega
      clear hrow hb1 hw0 hsz1 hA
      have a0 : (W1.alloc (.cells #[.slice A 48 cap, .int .i64 0] 56)).cell? ⟨w.heap.size, 0, none⟩ = some (.int .i64 (b : Int)) := (HA1.out.alloc _).cell 0
      go_wp2_with fail
      clear c2 hcv hz a0
      obtain ⟨W2, hW2⟩ : ∃ W2, W2 = W1.alloc (.cells #[.slice A 48 cap, .int .i64 0] 56) := ⟨_, rfl⟩
      have HW2 : Hid (WX W2 wr.heap.size W1.heap.size x2) := Lib.hid (hW2 ▸ HW0.out)
      have HA2 : Hid (Sits W2 w.heap.size 24 #[.int .i64 (b : Int), .int .u64 (v : Int), .string x]) := Lib.hid (hW2 ▸ HA1.out.alloc _)
      have HI2 : Hid (Below wa.heap.size wa W2) := Lib.hid (hW2 ▸ hI2.out.alloc hI2.out.size _)
      rw [← hW2]
      clear hW2 HW0 HA1 hI2
      refine (HN4.out _ _ _ _ HL2.out HW2.out).mono ?_
      rintro e W3 ⟨rfl, hw, hb⟩
      have HW3 := Lib.hid hw
      have HA3 := Lib.hid (HA2.out.below hb (by have := hI.out.size; have := HA.out.lt; omega))
      have HI3 := Lib.hid (HI2.out.trans (hb.mono hI.out.size))
      have a1 : W3.cell? ⟨w.heap.size, 1, none⟩ = some (.int .u64 (v : Int)) := HA3.out.cell 1
      clear hw hb HW2 HA2 HI2
      go_wp2_with fail
      clear a1
      refine (HN8.out _ _ _ _ HL2.out HW3.out).mono ?_
      rintro e W4 ⟨rfl, hw, hb⟩
      have HI4 := Lib.hid (HI3.out.trans (hb.mono hI.out.size))
      obtain ⟨A4, cap4, t0, hcv⟩ := wx_text _ _ _ _ hw
      generalize (x2 ++ leb 4 b ++ leb 8 v).length = n4 at t0 hcv
      clear hw hb HW3 HA3 HI3
      go_wp2_with fail
      clear t0 hcv
      (with_reducible refine (HS2.out _).mono ?_)
      rintro e W5 ⟨rfl, hb⟩
      have HI5 := Lib.hid (HI4.out.trans (hb.mono HI4.out.size))
      clear hb HI4
      have hq1 := HZ1.out
      have hq2 := HZ2.out
      go_wp2
      go_roundw
      case measure => simp [intOf]
      case rel => exact ⟨.inr (.inr ⟨rfl, by rw [← str_append]⟩), HI5⟩
    · go_wp2
      go_ret2
      exact ⟨rfl, HBA.out.trans (hI.out.mono HBA.out.size)⟩
end Go.Proofs.YtmlhncheodpbpaaGreat
