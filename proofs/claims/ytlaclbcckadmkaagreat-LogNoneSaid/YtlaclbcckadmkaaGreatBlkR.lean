/- Chapter 10's disks that are ready: the program's and the document's. -/
import Derived.Test.YtlaclbcckadmkaaGreatGO
namespace Go.Proofs.YtlaclbcckadmkaaGreat
open Go Go.RowKit SupP DskP RdkP
set_option maxRecDepth 100000
set_option maxHeartbeats 1000000
set_option linter.unusedSimpArgs false

/-- A block that a function has for itself. -/
def CellAt (g t : Nat) (cs : Array Value) (S : Nat → Prop) (w : World) : Prop := S g ∧ Sits w g t cs
theorem holdC (g t : Nat) (cs : Array Value) : Hold (CellAt g t cs) :=
  ⟨fun h hk => ⟨h.1, (hk _ h.1 h.2.lt).trans h.2⟩, fun h hs => ⟨hs _ h.1, h.2⟩, fun h => ⟨⟨h.1, h.2.lt⟩, h.2⟩⟩
abbrev DP (p : Nat) (D : Dsk) (S : Nat → Prop) (w : World) : Prop := DiskAt S w p D
abbrev RP (p : Nat) (R : Rdk) (S : Nat → Prop) (w : World) : Prop := RAt S w p R
theorem Both.drop {A B C : (Nat → Prop) → World → Prop} {S : Nat → Prop} {w : World} (hA : Hold A) (h : Both (Both A C) B S w) : Both A B S w := by
  obtain ⟨S1, S2, ⟨T1, T2, h1, _, _, h4⟩, h2, h3, h5⟩ := h
  exact ⟨S1, S2, hA.mono h1 fun k hk => h4 k (.inl hk), h2, h3, h5⟩
/-- What stands at the end of Ready. -/
structure RdyR (w w3 : World) (p q g7 : Nat) (D : Dsk) (R : Rdk) (W : World) : Prop where
  lay : Sits W g7 33 #[.int .i64 2, .int .i64 10, .int .i64 8, .int .i64 4, .int .i64 32]
  both : Both (DP p D) (RP q R) (fun k => w3.heap.size ≤ k) W
  low : Below w.heap.size w W
theorem RdyR.put {w w3 W : World} {p q g7 : Nat} {D : Dsk} {R : Rdk} (h : RdyR w w3 p q g7 D R W) (h3 : w.heap.size < w3.heap.size) (h7 : w.heap.size < g7) (i : Nat) (u : Value) : RdyR w w3 p q g7 D R (W.setCell ⟨w.heap.size, i, none⟩ u) :=
  ⟨h.lay.away (show g7 ≠ w.heap.size by omega) u, (Hold.both (holdD p D) (holdR q R)).keep h.both fun k hk _ => Below.heap_setCell _ _ _ _ (show k ≠ w.heap.size by omega), h.low.setCell (Nat.le_refl _) _⟩
theorem op_adm {p : Nat} {D D' : Dsk} {r : Nat} (hc : D.count ≤ 1000000) (node : Int) (ep : Nat) (hr : admF D node ep = (r, D')) : Turns (DP p D) (DP p D') 29 #[.pointer (some ⟨p, 0, none⟩), .int .i64 node, .int .u64 (ep : Int)] (.returned (.int .i64 (r : Int))) := by
  intro S w _ h
  refine (admit_any p D node ep w h hc).mono ?_
  rintro e w' ⟨rfl, hd, hm⟩
  rw [hr] at hd
  exact ⟨by rw [hr], hd, hm⟩
theorem size_al : sizeS alSh = 37 := by decide
theorem rdy_count : rdy0.count ≤ 1000 := by decide +kernel
theorem rdy_adm : admF rdy0 1 9 = (0, rdyD) := by
  have hf := format_on (newD 37) alSh
  exact adm_ok (node := 1) hf.1 (by omega) (by show (formatD (newD 37) alSh).last < 9; rw [hf.2.2.2]; decide) hf.2.2.1
theorem rd_w : rwriteF rdR1 0 1 0 (superL alSh) = (0, rdR2) := by
  have hl := superL_len alSh
  unfold rwriteF
  rw [hl]
  rfl
theorem rd_fresh (w : World) : RAt (fun k => w.heap.size ≤ k) (w.alloc (.cells (rdl rdR0 (.slice none 0 0) (.slice none 0 0)).toArray 70)) w.heap.size rdR0 :=
  ⟨⟨(fun _ h => by cases h), by decide, by decide⟩, Nat.le_refl _, _, _, Sits.fresh w _ _, World.ownsRow_nil _ _ _ _, RowAt.nil _ _ _ _, fun b hb => by rcases hb with hb | hb <;> simp [Value.ownBlock] at hb⟩
theorem ready_any (w : World) : Calls Tryz.prog 6 #[] w fun e w' => ∃ p q, e = .returned (.tuple #[.pointer (some ⟨p, 0, none⟩), .pointer (some ⟨q, 0, none⟩), aggH alSh, .bool true]) ∧ Has (Both (DP p rdyD) (RP q rdR5)) w w' := by
  have hd : Valid alSh := alSh_valid
  have HSH := Lib.hid shape_any
  have HSZ : Hid (∀ W : World, Calls Tryz.prog 26 #[aggH alSh] W fun e w' => e = .returned (.int .i64 37) ∧ Below W.heap.size W w') := Lib.hid fun W => by
    have := rsize_ok alSh hd W
    rwa [size_al] at this
  have HNW : Hid (∀ W : World, Calls Tryz.prog 25 #[.int .i64 37] W fun e w' => ∃ p, e = .returned (.pointer (some ⟨p, 0, none⟩)) ∧ Own W w' p (newD 37)) := Lib.hid fun W => own_new 37 (by omega) (by omega) W
  have HFO : Hid (∀ (w0 W : World) (p : Nat), Own w0 W p (newD 37) → Calls Tryz.prog 27 #[.pointer (some ⟨p, 0, none⟩), aggH alSh] W fun e w' => e = .returned (.int .i64 0) ∧ Own w0 w' p rdy0) := Lib.hid fun w0 W p hW =>
    (sformat_ok hW.dat rfl rfl (by decide) (by decide) alSh hd (by decide)).mono fun e w' ⟨he, hd⟩ => ⟨he, hd.own⟩
  have HLD : Hid (∀ (w0 W : World) (p : Nat), Own w0 W p rdy0 → Calls Tryz.prog 28 #[.pointer (some ⟨p, 0, none⟩)] W fun e w' => e = .returned (.tuple #[aggH alSh, .int .i64 0]) ∧ Below W.heap.size W w') := Lib.hid fun w0 W p hW => by
    have hf := format_on (newD 37) alSh
    exact sload_ok hW.dat hf.1 alSh hd (format_head _ _) (by show sizeS alSh ≤ ((formatD (newD 37) alSh).n : Int); rw [hf.2.1]; decide)
  have HAD : Hid (∀ (w0 W : World) (p g t : Nat) (cs : Array Value), Has (Both (DP p rdy0) (CellAt g t cs)) w0 W → Calls Tryz.prog 29 #[.pointer (some ⟨p, 0, none⟩), .int .i64 1, .int .u64 9] W fun e w' => e = .returned (.int .i64 0) ∧ Has (Both (DP p rdyD) (CellAt g t cs)) w0 w') := Lib.hid fun w0 W p g t cs hW =>
    (Turns.left (holdD p rdy0) (holdC g t cs) (op_adm (by have := rdy_count; omega) 1 9 rdy_adm)).has hW
  have HPS : Hid (∀ W : World, Calls Tryz.prog 30 #[aggH alSh] W fun e w' => e = .returned (.tuple #[.string (str (superL alSh)), .int .i64 0]) ∧ Below W.heap.size W w') := Lib.hid fun W => by
    have := rputshape_ok alSh hd W
    rwa [superL_str] at this
  have HR1 : Hid (∀ (A : (Nat → Prop) → World → Prop) (w0 W : World) (q : Nat), Hold A → Has (Both A (RP q rdR0)) w0 W → Calls Tryz.prog 31 #[.pointer (some ⟨q, 0, none⟩), .int .i64 0, .int .u64 1] W fun e w' => e = .returned (.int .i64 0) ∧ Has (Both A (RP q rdR1)) w0 w') := Lib.hid fun A w0 W q hA hW => (Turns.right hA (holdR q rdR0) (radm_any q rdR0 0 1 rfl)).has hW
  have HR2 : Hid (∀ (A : (Nat → Prop) → World → Prop) (w0 W : World) (q : Nat), Hold A → Has (Both A (RP q rdR1)) w0 W → Calls Tryz.prog 32 #[.pointer (some ⟨q, 0, none⟩), .int .i64 0, .int .u64 1, .int .i64 0, .string (str (superL alSh))] W fun e w' => e = .returned (.int .i64 0) ∧ Has (Both A (RP q rdR2)) w0 w') := Lib.hid fun A w0 W q hA hW => by
    have := (Turns.right hA (holdR q rdR1) (rwrite_any q rdR1 0 1 0 (superL alSh) rfl (by rw [superL_len]; decide) (by decide))).has hW
    rw [rd_w] at this
    exact this
  have HR3 : Hid (∀ (A : (Nat → Prop) → World → Prop) (w0 W : World) (q : Nat), Hold A → Has (Both A (RP q rdR2)) w0 W → Calls Tryz.prog 33 #[.pointer (some ⟨q, 0, none⟩), .int .i64 0, .int .u64 1] W fun e w' => e = .returned (.int .i64 0) ∧ Has (Both A (RP q rdR3)) w0 w') := Lib.hid fun A w0 W q hA hW => (Turns.right hA (holdR q rdR2) (rbar_any q rdR2 0 1 rfl)).has hW
  have HR4 : Hid (∀ (A : (Nat → Prop) → World → Prop) (w0 W : World) (q : Nat), Hold A → Has (Both A (RP q rdR3)) w0 W → Calls Tryz.prog 34 #[.pointer (some ⟨q, 0, none⟩), .int .i64 0] W fun e w' => e = .returned (.int .i64 0) ∧ Has (Both A (RP q rdR4)) w0 w') := Lib.hid fun A w0 W q hA hW => (Turns.right hA (holdR q rdR3) (rfen_any q rdR3 0 rfl)).has hW
  have HR5 : Hid (∀ (A : (Nat → Prop) → World → Prop) (w0 W : World) (q : Nat), Hold A → Has (Both A (RP q rdR4)) w0 W → Calls Tryz.prog 31 #[.pointer (some ⟨q, 0, none⟩), .int .i64 1, .int .u64 9] W fun e w' => e = .returned (.int .i64 0) ∧ Has (Both A (RP q rdR5)) w0 w') := Lib.hid fun A w0 W q hA hW => (Turns.right hA (holdR q rdR4) (radm_any q rdR4 1 9 rfl)).has hW
  have HFR := Lib.hid rd_fresh
  have HHC := Lib.hid holdC
  obtain ⟨Y, hY⟩ : ∃ Y, Y = str (superL alSh) := ⟨_, rfl⟩
  rw [← hY] at HPS HR2
  have HHD := Lib.hid holdD
  have HHR := Lib.hid holdR
  obtain ⟨D0, hD0⟩ : ∃ D, D = rdy0 := ⟨_, rfl⟩
  obtain ⟨D1, hD1⟩ : ∃ D, D = rdyD := ⟨_, rfl⟩
  obtain ⟨R0, hR0⟩ : ∃ R, R = rdR0 := ⟨_, rfl⟩
  obtain ⟨R1, hR1⟩ : ∃ R, R = rdR1 := ⟨_, rfl⟩
  obtain ⟨R2, hR2⟩ : ∃ R, R = rdR2 := ⟨_, rfl⟩
  obtain ⟨R3, hR3⟩ : ∃ R, R = rdR3 := ⟨_, rfl⟩
  obtain ⟨R4, hR4⟩ : ∃ R, R = rdR4 := ⟨_, rfl⟩
  obtain ⟨R5, hR5⟩ : ∃ R, R = rdR5 := ⟨_, rfl⟩
  rw [← hD0] at HFO HLD HAD
  rw [← hD1] at HAD ⊢
  have HF0 : Hid (∀ w : World, RAt (fun k => w.heap.size ≤ k) (w.alloc (.cells #[.int .i64 37, .slice none 0 0, .bool false, .int .u64 0, .int .u64 0, .int .u64 0, .int .u64 0, .int .u64 0, .int .u64 0, .int .u64 0, .int .u64 0, .int .u64 0, .int .u64 0, .int .u64 0, .int .u64 0, .int .u64 0, .int .u64 0, .int .u64 0, .int .u64 0, .int .u64 0, .int .u64 0, .int .u64 0, .int .u64 0, .int .u64 0, .int .u64 0, .int .u64 0, .int .u64 0, .int .u64 0, .int .u64 0, .int .u64 0, .int .u64 0, .int .u64 0, .int .u64 0, .int .u64 0, .int .u64 0, .int .u64 0, .int .u64 0, .int .u64 0, .bool false, .int .i64 0, .slice none 0 0] 70)) w.heap.size R0) := Lib.hid fun w => by rw [hR0]; exact HFR.out w
  rw [← hR0, ← hR1] at HR1
  rw [← hR1, ← hR2] at HR2
  rw [← hR2, ← hR3] at HR3
  rw [← hR3, ← hR4] at HR4
  rw [← hR4, ← hR5] at HR5
  rw [← hR5]
  clear HFR hd hY hD0 hD1 hR0 hR1 hR2 hR3 hR4 hR5
  unfold aggH alSh at HSH HSZ HFO HLD HPS ⊢
  simp only at HSH HSZ HFO HLD HPS ⊢
  have HZ0 : Hid (Sits (w.alloc (.cells #[.int .i64 0, .int .i64 0, .int .i64 0, .int .i64 0, .int .i64 0] 33)) w.heap.size 33 #[.int .i64 0, .int .i64 0, .int .i64 0, .int .i64 0, .int .i64 0]) := Lib.hid (Sits.fresh w _ _)
  have HB0 : Hid (Below w.heap.size w (w.alloc (.cells #[.int .i64 0, .int .i64 0, .int .i64 0, .int .i64 0, .int .i64 0] 33))) := Lib.hid ((Below.refl _ w).alloc (Nat.le_refl _) _)
  go_enter Tryz.func6, Tryz.ntmps6
  go_wp2_with fail
  (with_reducible refine (HSH.out _).mono ?_)
  rintro e w1 ⟨rfl, hb⟩
  have HZ1 := Lib.hid (HZ0.out.below' hb)
  have HB1 := Lib.hid (HB0.out.trans (hb.mono HB0.out.size))
  clear hb HZ0 HB0
  obtain ⟨w2, hw2⟩ : ∃ w2, w2 = w1.alloc (.cells #[.int .i64 2, .int .i64 10, .int .i64 8, .int .i64 4, .int .i64 32] 31) := ⟨_, rfl⟩
  have hb2 : Below w1.heap.size w1 w2 := hw2 ▸ (Below.refl _ w1).alloc (Nat.le_refl _) _
  obtain ⟨g4, hg4⟩ : ∃ g, g = w1.heap.size := ⟨_, rfl⟩
  have HS2 : Hid (Sits w2 g4 31 #[.int .i64 2, .int .i64 10, .int .i64 8, .int .i64 4, .int .i64 32]) := Lib.hid (by rw [hw2, hg4]; exact Sits.fresh w1 _ _)
  have HZ2 := Lib.hid (HZ1.out.below' hb2)
  have HB2 := Lib.hid (HB1.out.trans (hb2.mono HB1.out.size))
  have HG4 : Hid (w.heap.size < g4) := Lib.hid (by rw [hg4]; exact HZ1.out.lt)
  clear hb2 HZ1 HB1
  go_wp2_with fail
  rw [← hw2, ← hg4]
  clear hw2 hg4
  (with_reducible refine (HSZ.out _).mono ?_)
  rintro e w3 ⟨rfl, hb⟩
  have HS3 := Lib.hid (HS2.out.below' hb)
  have HZ3 := Lib.hid (HZ2.out.below' hb)
  have HB3 := Lib.hid (HB2.out.trans (hb.mono HB2.out.size))
  clear hb HS2 HZ2 HB2
  go_wp2_with fail
  (with_reducible refine (HNW.out _).mono ?_)
  rintro e w4 ⟨p, rfl, ho⟩
  have HO4 := Lib.hid ho
  have hs := HS3.out.below' ho.below
  have c0 : w4.cell? ⟨g4, 0, none⟩ = some (.int .i64 2) := hs.cell 0
  have c1 : w4.cell? ⟨g4, 1, none⟩ = some (.int .i64 10) := hs.cell 1
  have c2 : w4.cell? ⟨g4, 2, none⟩ = some (.int .i64 8) := hs.cell 2
  have c3 : w4.cell? ⟨g4, 3, none⟩ = some (.int .i64 4) := hs.cell 3
  have c4 : w4.cell? ⟨g4, 4, none⟩ = some (.int .i64 32) := hs.cell 4
  clear ho hs
  go_wp2_with fail
  clear c0 c1 c2 c3 c4
  refine (HFO.out _ _ _ HO4.out).mono ?_
  rintro e w5 ⟨rfl, ho⟩
  have HO5 := Lib.hid ho
  clear ho HO4
  go_wp2_with fail
  refine (HLD.out _ _ _ HO5.out).mono ?_
  rintro e w6 ⟨rfl, hb⟩
  have HO6 := Lib.hid (HO5.out.down hb).has
  clear hb HO5
  obtain ⟨w7, hw7⟩ : ∃ w7, w7 = w6.alloc (.cells #[.int .i64 2, .int .i64 10, .int .i64 8, .int .i64 4, .int .i64 32] 33) := ⟨_, rfl⟩
  obtain ⟨g7, hg7⟩ : ∃ g, g = w6.heap.size := ⟨_, rfl⟩
  have HO7 : Hid (Has (Both (DP p D0) (CellAt g7 33 #[.int .i64 2, .int .i64 10, .int .i64 8, .int .i64 4, .int .i64 32])) w3 w7) := Lib.hid (HO6.out.with_ (HHD.out p D0) ⟨⟨by rw [hg7]; exact Nat.le_refl _, by rw [hw7, hg7]; exact Sits.fresh w6 _ _⟩, by rw [hw7]; exact (Below.refl _ w6).alloc (Nat.le_refl _) _⟩)
  clear HO6
  go_wp2_with fail
  rw [← hw7, ← hg7]
  clear hw7 hg7
  refine (HAD.out _ _ _ _ _ _ HO7.out).mono ?_
  rintro e w8 ⟨rfl, ho⟩
  have HO8 := Lib.hid ho
  have hs := HS3.out.below' ho.below
  have c0 : w8.cell? ⟨g4, 0, none⟩ = some (.int .i64 2) := hs.cell 0
  have c1 : w8.cell? ⟨g4, 1, none⟩ = some (.int .i64 10) := hs.cell 1
  have c2 : w8.cell? ⟨g4, 2, none⟩ = some (.int .i64 8) := hs.cell 2
  have c3 : w8.cell? ⟨g4, 3, none⟩ = some (.int .i64 4) := hs.cell 3
  have c4 : w8.cell? ⟨g4, 4, none⟩ = some (.int .i64 32) := hs.cell 4
  clear ho hs HO7
  go_wp2_with fail
  clear c0 c1 c2 c3 c4
  (with_reducible refine (HSZ.out _).mono ?_)
  rintro e w9 ⟨rfl, hb⟩
  have HO9 := Lib.hid (HO8.out.down ((HHD.out p D1).both (HHC.out g7 _ _)) hb)
  clear hb HO8
  obtain ⟨w10, hw10⟩ : ∃ w10, w10 = w9.alloc (.cells #[.int .i64 37, .slice none 0 0, .bool false, .int .u64 0, .int .u64 0, .int .u64 0, .int .u64 0, .int .u64 0, .int .u64 0, .int .u64 0, .int .u64 0, .int .u64 0, .int .u64 0, .int .u64 0, .int .u64 0, .int .u64 0, .int .u64 0, .int .u64 0, .int .u64 0, .int .u64 0, .int .u64 0, .int .u64 0, .int .u64 0, .int .u64 0, .int .u64 0, .int .u64 0, .int .u64 0, .int .u64 0, .int .u64 0, .int .u64 0, .int .u64 0, .int .u64 0, .int .u64 0, .int .u64 0, .int .u64 0, .int .u64 0, .int .u64 0, .int .u64 0, .bool false, .int .i64 0, .slice none 0 0] 70) := ⟨_, rfl⟩
  obtain ⟨q, hq⟩ : ∃ q, q = w9.heap.size := ⟨_, rfl⟩
  have ho10 : Has (Both (Both (DP p D1) (CellAt g7 33 #[.int .i64 2, .int .i64 10, .int .i64 8, .int .i64 4, .int .i64 32])) (RP q R0)) w3 w10 := HO9.out.with_ ((HHD.out p D1).both (HHC.out g7 _ _)) ⟨by rw [hw10, hq]; exact HF0.out w9, by rw [hw10]; exact (Below.refl _ w9).alloc (Nat.le_refl _) _⟩
  have HO10 := Lib.hid ho10
  have hs := HS3.out.below' ho10.below
  have c0 : w10.cell? ⟨g4, 0, none⟩ = some (.int .i64 2) := hs.cell 0
  have c1 : w10.cell? ⟨g4, 1, none⟩ = some (.int .i64 10) := hs.cell 1
  have c2 : w10.cell? ⟨g4, 2, none⟩ = some (.int .i64 8) := hs.cell 2
  have c3 : w10.cell? ⟨g4, 3, none⟩ = some (.int .i64 4) := hs.cell 3
  have c4 : w10.cell? ⟨g4, 4, none⟩ = some (.int .i64 32) := hs.cell 4
  clear ho10 hs HO9
  rw [hw10] at c0 c1 c2 c3 c4
  go_wp2_with fail
  clear c0 c1 c2 c3 c4
  rw [← hw10, ← hq]
  clear hw10 hq
  (with_reducible refine (HPS.out _).mono ?_)
  rintro e w11 ⟨rfl, hb⟩
  have HA := Lib.hid ((HHD.out p D1).both (HHC.out g7 33 #[.int .i64 2, .int .i64 10, .int .i64 8, .int .i64 4, .int .i64 32]))
  have HO11 := Lib.hid (HO10.out.down (HA.out.both (HHR.out q R0)) hb)
  clear hb HO10
  go_wp2_with fail
  refine (HR1.out _ _ _ _ HA.out HO11.out).mono ?_
  rintro e w12 ⟨rfl, ho⟩
  have HO12 := Lib.hid ho
  clear ho HO11
  go_wp2_with fail
  refine (HR2.out _ _ _ _ HA.out HO12.out).mono ?_
  rintro e w13 ⟨rfl, ho⟩
  have HO13 := Lib.hid ho
  clear ho HO12
  go_wp2_with fail
  refine (HR3.out _ _ _ _ HA.out HO13.out).mono ?_
  rintro e w14 ⟨rfl, ho⟩
  have HO14 := Lib.hid ho
  clear ho HO13
  go_wp2_with fail
  refine (HR4.out _ _ _ _ HA.out HO14.out).mono ?_
  rintro e w15 ⟨rfl, ho⟩
  have HO15 := Lib.hid ho
  clear ho HO14
  go_wp2_with fail
  refine (HR5.out _ _ _ _ HA.out HO15.out).mono ?_
  rintro e w16 ⟨rfl, ho⟩
  have HO16 := Lib.hid ho
  clear HO15
  have hg := (ho.fst (HA.out)).snd (HHC.out _ _ _)
  have hs := hg.here.2
  have hz := HZ3.out.below' ho.below
  have hB : Below w.heap.size w w16 := HB3.out.trans (ho.below.mono HB3.out.size)
  have hr : RdyR w w3 p q g7 D1 R5 w16 := ⟨hs, Both.drop (HHD.out p D1) ho.here, hB⟩
  have hlt3 : w.heap.size < w3.heap.size := HZ3.out.lt
  have hlt7 : w.heap.size < g7 := by have := hg.here.1; omega
  have HR := Lib.hid (And.intro hr hz)
  clear ho hg hs hz hB hr HO16 HB3 HS3 HZ3
  go_wp2_with fail
  refine wp_region_exV (by kernel_rfl) (OneS 5 (RdyR w w3 p q g7 D1 R5) w.heap.size 33 #[.int .i64 0, .int .i64 0, .int .i64 0, .int .i64 0, .int .i64 0] #[.int .i64 2, .int .i64 10, .int .i64 8, .int .i64 4, .int .i64 32])
    [[(5, none)], [(9, none)], [(7, none)], [(56, some 0)], [(57, some 1)], [(2, none), (58, some 2)], []]
    [some 3, some 4, none, some 6, none, none, none, none, none, none, none, none, none, none, none, none, none, none, none, none, none, none, none, none, none, none, none, none, none, none, none, none, none, none, none, none, none, none, none, none, none, none, none, none, none, none, none, none, none, none, none, none, none, none, none, none, some 0, some 1, some 2] (by kernel_rfl) (by kernel_rfl) (OneS.start ⟨HR.out.1.lay.drew, (Hold.both (HHD.out p D1) (HHR.out q R5)).keep HR.out.1.both fun _ _ _ => rfl, HR.out.1.low.drew⟩ HR.out.2.drew) ?_
  iterate 5
    refine exV_pure (c := ?_) (fun _ _ _ h => h.pure (by decide)) ?_ ?_
    rotate_left
    · intro a' d' W hR hF
      simp only [FactsV, List.nil_append, List.cons_append, List.getD_cons_zero, List.getD_cons_succ, exists_eq_left, and_true, true_and, List.getElem?_toArray, List.getElem?_cons_zero, List.getElem?_cons_succ] at hF
      have hs := hR.1.lay
      have c0 : W.cell? ⟨g7, 0, none⟩ = some (.int .i64 2) := hs.cell 0
      have c1 : W.cell? ⟨g7, 1, none⟩ = some (.int .i64 10) := hs.cell 1
      have c2 : W.cell? ⟨g7, 2, none⟩ = some (.int .i64 8) := hs.cell 2
      have c3 : W.cell? ⟨g7, 3, none⟩ = some (.int .i64 4) := hs.cell 3
      have c4 : W.cell? ⟨g7, 4, none⟩ = some (.int .i64 32) := hs.cell 4
      refine ⟨?_, ?_⟩
      · simp [Region.wanted, yielded, hF]
      · go_simp
        with_reducible rfl
  refine exV_store (fun a' d' W hd hR hF => ?_) ?_
  · skip
    simp only [FactsV, List.nil_append, List.cons_append, List.getD_cons_zero, List.getD_cons_succ, exists_eq_left, and_true, true_and, List.getElem?_toArray, List.getElem?_cons_zero, List.getElem?_cons_succ] at hF
    have hs := hR.old hd
    have c0 : W.cell? ⟨w.heap.size, 0, none⟩ = some (.int .i64 0) := hs.cell 0
    have c1 : W.cell? ⟨w.heap.size, 1, none⟩ = some (.int .i64 0) := hs.cell 1
    have c2 : W.cell? ⟨w.heap.size, 2, none⟩ = some (.int .i64 0) := hs.cell 2
    have c3 : W.cell? ⟨w.heap.size, 3, none⟩ = some (.int .i64 0) := hs.cell 3
    have c4 : W.cell? ⟨w.heap.size, 4, none⟩ = some (.int .i64 0) := hs.cell 4
    have f0 := hs.warm 0
    have f1 := hs.warm 1
    have f2 := hs.warm 2
    have f3 := hs.warm 3
    have f4 := hs.warm 4
    refine ⟨by simp [Region.wanted, yielded], ((((W.setCell ⟨w.heap.size, 0, none⟩ (.int .i64 2)).setCell ⟨w.heap.size, 1, none⟩ (.int .i64 10)).setCell ⟨w.heap.size, 2, none⟩ (.int .i64 8)).setCell ⟨w.heap.size, 3, none⟩ (.int .i64 4)).setCell ⟨w.heap.size, 4, none⟩ (.int .i64 32), by go_simp, ?_⟩
    exact OneS.store (((((hR.1.put hlt3 hlt7 0 _).put hlt3 hlt7 1 _).put hlt3 hlt7 2 _).put hlt3 hlt7 3 _).put hlt3 hlt7 4 _) (((((hs.put 0 _).put 1 _).put 2 _).put 3 _).put 4 _)
  iterate 1
    refine exV_pure (c := ?_) (fun _ _ _ h => h.pure (by decide)) ?_ ?_
    rotate_left
    · intro a' d' W hR hF
      simp only [FactsV, List.nil_append, List.cons_append, List.getD_cons_zero, List.getD_cons_succ, exists_eq_left, and_true, true_and, List.getElem?_toArray, List.getElem?_cons_zero, List.getElem?_cons_succ] at hF
      refine ⟨?_, ?_⟩
      · simp [Region.wanted, yielded, hF]
      · go_simp
        with_reducible rfl
  show ∀ d W, _ → _ → _
  intro d w17 hA2 hR2
  simp only [FinV, List.nil_append, List.cons_append, List.getD_cons_zero, List.getD_cons_succ, forall_eq, forall_const, true_implies, forall_exists_index, and_imp, Nat.reduceAdd, Array.getD_eq_getD_getElem?, List.getElem?_toArray, List.getElem?_cons_zero, List.getElem?_cons_succ, Option.getD_some]
  have hD := hR2.done (hA2 5 (by decide))
  clear hR2 hA2
  intros
  have c0 : w17.cell? ⟨w.heap.size, 0, none⟩ = some (.int .i64 2) := hD.2.cell 0
  have c1 : w17.cell? ⟨w.heap.size, 1, none⟩ = some (.int .i64 10) := hD.2.cell 1
  have c2 : w17.cell? ⟨w.heap.size, 2, none⟩ = some (.int .i64 8) := hD.2.cell 2
  have c3 : w17.cell? ⟨w.heap.size, 3, none⟩ = some (.int .i64 4) := hD.2.cell 3
  have c4 : w17.cell? ⟨w.heap.size, 4, none⟩ = some (.int .i64 32) := hD.2.cell 4
  have HD := Lib.hid hD.1
  clear hD
  go_wp2
  refine bodyPost_ret (v := .tuple #[.pointer (some ⟨p, 0, none⟩), .pointer (some ⟨q, 0, none⟩), .agg #[.int .i64 2, .int .i64 10, .int .i64 8, .int .i64 4, .int .i64 32], .bool true]) (by simp [results, Tryz.results6, go_sem, c0, c1, c2, c3, c4]) rfl ⟨p, q, rfl, ?_⟩
  exact ⟨(Hold.both (HHD.out p D1) (HHR.out q R5)).mono HD.out.both fun k hk => by omega, HD.out.low⟩
end Go.Proofs.YtlaclbcckadmkaaGreat
