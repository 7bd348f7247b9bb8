/- Package sdisk: makeLast, disarm, settle. -/
import Derived.Test.YtmlhncheodpbpaaGreatGF
import Derived.Test.YtmlhncheodpbpaaGreatGD
import Derived.Deep.RegionHeld
import Derived.StillTailTactics
import Derived.BigRegion
import Derived.IntWalk
namespace Go.Proofs.YtmlhncheodpbpaaGreat
open Go Go.RowKit DskP
set_option maxRecDepth 100000
set_option maxHeartbeats 1000000
set_option linter.unusedSimpArgs false

theorem encWr_cell0 (x : DskP.Wr) : (encWr x)[0]? = some (.int .i64 (x.node : Int)) := rfl
theorem encWr_cell1 (x : DskP.Wr) : (encWr x)[1]? = some (.int .i64 (x.pos : Int)) := rfl
theorem encWr_cell2 (x : DskP.Wr) : (encWr x)[2]? = some (.int .i64 (x.tm : Int)) := rfl
theorem encWr_data (x : DskP.Wr) : ∀ j u, (bl x.data)[j]? = some u → (encWr x)[3 + j]? = some u := by
  intro j u hu
  unfold encWr
  rw [List.getElem?_append_right (by simp), show 3 + j - [Value.int .i64 (x.node : Int), .int .i64 (x.pos : Int), .int .i64 (x.tm : Int)].length = j by simp]
  exact hu
theorem info_sector : (Tryz.prog.info? 89).map (·.size) = some 64 := by kernel_rfl
theorem info_write : (Tryz.prog.info? 91).map (·.size) = some 67 := by kernel_rfl
theorem info_place : (Tryz.prog.info? 94).map (·.size) = some 129 := by kernel_rfl

theorem makelast_row (p n : Nat) (dc : Array Value) (pv : Value) (f : Nat → Pl) (x : DskP.Wr) (w : World) (hp : Sits w p 87 dc) (hpv : dc[1]? = some pv) (hr : RowAt w 0 94 129 pv n (cellsPl f n))
    (hf : ∀ i, i < n → (f i).now.length = 64 ∧ (f i).last.length = 64) (hx : x.data.length = 64) (hpos : x.pos < n) :
    Calls Tryz.prog 49 #[.pointer (some ⟨p, 0, none⟩), .agg (encWr x).toArray] w fun e w' => e = .returned (.tuple #[]) ∧ RowAt w' 0 94 129 pv n (cellsPl (lastPl f x) n) ∧ Many (fun k => pv.ownBlock = some k) w w' := by
  obtain ⟨A, cap, rfl, h1, h2, h3, h4⟩ := hr.form
  obtain ⟨q, o, rfl⟩ := h3 (by omega)
  have hq := h4 q o rfl
  obtain ⟨w1, hw1⟩ : ∃ w1, w1 = w.alloc (.cells (encWr x).toArray 91) := ⟨_, rfl⟩
  obtain ⟨b, hb⟩ : ∃ b, b = w.heap.size := ⟨_, rfl⟩
  have hb1 : Below w.heap.size w w1 := hw1 ▸ (Below.refl _ w).alloc (Nat.le_refl _) _
  have hs1 : Sits w1 b 91 (encWr x).toArray := hw1 ▸ hb ▸ Sits.fresh w _ _
  have hr1 := hr.below hb1
  have c1 := ((hp.below' hb1).cell 1).trans hpv
  have k1 := (hs1.cell 1).trans (encWr_cell1 x)
  have k2 := (hs1.cell 2).trans (encWr_cell2 x)
  have hF : ∀ i, i < n → (encPl (f i)).length = 129 := fun i hi => encPl_len (hf i hi)
  have g0 := hr1.row hF hpos 128 [.int .i64 ((f x.pos).tm : Int)] (fun j u hu => by
    rcases j with _ | j
    · rw [← hu]; exact encPl_at_tm (hf _ hpos)
    · simp at hu)
  have g1 := g0 0 _ rfl
  rw [Nat.add_zero, ← Nat.add_assoc] at g1
  have hlt : decide (x.pos < n) = true := decide_eq_true hpos
  have hadd : ∀ j, (⟨q, o, none⟩ : Addr).add j = ⟨q, o + j, none⟩ := fun j => Addr.add_mid q o j
  have D1 := Lib.hid k1
  have D2 := Lib.hid k2
  rw [hw1, hb] at k1 k2
  rw [hw1] at c1 g1
  go_enter Tryz.func49, Tryz.ntmps49
  go_wp2
  rw [← hw1, ← hb]
  rw [← hw1, ← hb] at k1 k2
  rw [← hw1] at c1 g1
  have HBB := Lib.hid hb
  clear hw1 hb
  go_quiet (fail)
  go_wp2
  by_cases ht : (f x.pos).tm < x.tm
  · have dt : decide ((f x.pos).tm < x.tm) = true := decide_eq_true ht
    go_quiet (fail)
    go_wp2
    rename_i nq0
    obtain ⟨W, hW⟩ : ∃ W, W = (w1.drewN nq0).drewN nq := ⟨_, rfl⟩
    have hsW : Sits W b 91 (encWr x).toArray := by rw [hW]; exact hs1
    have hrW : RowAt W.drew 0 94 129 (.slice (some ⟨q, o, none⟩) n cap) n (cellsPl f n) := by rw [hW]; exact hr1.keep fun _ _ => rfl
    have hMW : Many (fun k => (Value.slice (some ⟨q, o, none⟩) n cap).ownBlock = some k) w W.drew := by rw [hW]; exact (((Many.of_below _ hb1).drewN _).drewN _).drewN 1
    have hne : b ≠ q := by
      obtain ⟨cur, hc⟩ := hr1.sits q rfl
      exact hs1.apart hc (by decide)
    have l1 : W.drew.rangeAt b 3 (bl x.data) := fun j u hu => by rw [World.cell?_drew, hsW.cell]; simpa using encWr_data x j u hu
    have hT := hrW.roomed (i := x.pos) (a := 64) (m := 64) hpos (by omega)
    rw [← Nat.add_assoc] at hT
    obtain ⟨W2, hW2⟩ : ∃ W2, W2 = W.drew.setCells q (o + x.pos * 129 + 64) (bl x.data) := ⟨_, rfl⟩
    have hr2 := hrW.setRow_ hF (i := x.pos) (a := 64) (vs := bl x.data) hpos (by rw [bl_len, hx]; omega)
    rw [← Nat.add_assoc, ← hW2, splice_last _ (hf _ hpos) hx, setAt_map encPl f x.pos ⟨(f x.pos).now, x.data, (f x.pos).tm⟩] at hr2
    have hf2 : ∀ i, i < n → (setAt f x.pos ⟨(f x.pos).now, x.data, (f x.pos).tm⟩ i).now.length = 64 ∧ (setAt f x.pos ⟨(f x.pos).now, x.data, (f x.pos).tm⟩ i).last.length = 64 := by
      intro i hi
      unfold setAt
      split
      · rename_i e
        subst e
        exact ⟨(hf _ hpos).1, hx⟩
      · exact hf i hi
    have hF2 := fun i hi => encPl_len (hf2 i hi)
    have hT2 := hr2.roomed (i := x.pos) (a := 128) (m := 1) hpos (by omega) 0 (by omega)
    have hr3 := hr2.setRow_ hF2 (i := x.pos) (a := 128) (vs := [.int .i64 (x.tm : Int)]) hpos (by simp)
    rw [setAt_same, splice_tm (x := ⟨(f x.pos).now, x.data, (f x.pos).tm⟩) _ ⟨(hf _ hpos).1, hx⟩, ← Nat.add_assoc, setAt_map encPl _ x.pos ⟨(f x.pos).now, x.data, x.tm⟩] at hr3
    rw [Nat.add_zero, ← Nat.add_assoc] at hT2
    have hS2 : Sits W2 b 91 (encWr x).toArray := by rw [hW2]; exact (setCells_other hne _ _ _).trans hsW
    have hW2s : ∀ V : World, Sits V b 91 (encWr x).toArray → V.cell? ⟨b, 2, none⟩ = some (.int .i64 (x.tm : Int)) ∧ V.rangeAt b 3 (bl x.data) := fun V hV => ⟨(hV.cell 2).trans (encWr_cell2 x), fun j u hu => by rw [hV.cell]; simpa using encWr_data x j u hu⟩
    obtain ⟨⟨u0, hu0⟩, hfz⟩ : (∃ u0, W2.cell? ⟨q, o + x.pos * 129 + 128, none⟩ = some u0) ∧ W2.frozen? ⟨q, o + x.pos * 129 + 128, none⟩ = false := ⟨Option.isSome_iff_exists.1 hT2.1, hT2.2⟩
    obtain ⟨W3, hW3⟩ : ∃ W3, W3 = W2.setCell ⟨q, o + x.pos * 129 + 128, none⟩ (.int .i64 (x.tm : Int)) := ⟨_, rfl⟩
    have hS3 : Sits W3 b 91 (encWr x).toArray := by rw [hW3]; exact hS2.away hne _
    have hMW3 := (hW2 ▸ hMW.cells (g := q) rfl (o + x.pos * 129 + 64) (bl x.data)).store (q := q) rfl (o + x.pos * 129 + 128) (.int .i64 (x.tm : Int))
    have HS1 := Lib.hid (show (W.drew.cell? ⟨b, 2, none⟩ = some (.int .i64 (x.tm : Int)) ∧ W.drew.rangeAt b 3 (bl x.data)) ∧ W.drew.there q (o + x.pos * 129 + 64) 64 from ⟨hW2s _ hsW, hT⟩)
    have HS2 := Lib.hid (show (W2.cell? ⟨b, 2, none⟩ = some (.int .i64 (x.tm : Int)) ∧ W2.rangeAt b 3 (bl x.data)) ∧ W2.there q (o + x.pos * 129 + 64) 64 from ⟨hW2s _ hS2, hW2 ▸ World.there_setCells hT _ _ _⟩)
    have HS3 := Lib.hid (show (W3.cell? ⟨b, 2, none⟩ = some (.int .i64 (x.tm : Int)) ∧ W3.rangeAt b 3 (bl x.data)) ∧ W3.there q (o + x.pos * 129 + 64) 64 from ⟨hW2s _ hS3, hW3 ▸ World.there_setCells (HS2.out.2) q (o + x.pos * 129 + 128) [_]⟩)
    rw [← hW]
    rw [show W2.setCells q (o + x.pos * 129 + 128) [Value.int .i64 (x.tm : Int)] = W2.setCell ⟨q, o + x.pos * 129 + 128, none⟩ (.int .i64 (x.tm : Int)) from rfl] at hr3
    have HR := Lib.hid hr3
    have HM := Lib.hid hMW3
    rw [← hW3] at HR HM
    rw [hW3] at HS3
    have HW3 := Lib.hid hW3
    rw [hW2] at HS2 HS3 hu0 hfz
    have HW2 := Lib.hid hW2
    clear hW hrW hMW k1 k2 c1 g1 hr hr1 hb1 hs1 g0 hT hT2 hr2 hr3 hMW3 hsW hW2s hS2 hS3 hW3 hW2
    have hu64 := Tryz.underlying89
    have hi64 : (Tryz.prog.info? 89).map (·.size) = some (bl x.data).length := by rw [bl_len, hx]; exact info_sector
    have hl64 : (bl x.data).length = 64 := by rw [bl_len, hx]
    have h1c := bl_one x.data
    go_region_held (fun V => (V.cell? ⟨b, 2, none⟩ = some (.int .i64 (x.tm : Int)) ∧ V.rangeAt b 3 (bl x.data)) ∧ V.there q (o + x.pos * 129 + 64) 64) (first | exact HS1.out | exact HS2.out | exact HS3.out) (fail)
    all_goals
      go_wp2
      rw [← HW2.out, ← HW3.out]
      go_end0
      refine ⟨rfl, ?_, HM.out⟩
      unfold lastPl
      rw [if_pos ht]
      have h9 := HR.out
      rw [show setAt (setAt f x.pos ⟨(f x.pos).now, x.data, (f x.pos).tm⟩) x.pos ⟨(f x.pos).now, x.data, x.tm⟩ = setAt f x.pos ⟨(f x.pos).now, x.data, x.tm⟩ by funext k; unfold setAt; split <;> rfl] at h9
      exact h9
  · have dt : decide ((f x.pos).tm < x.tm) = false := decide_eq_false ht
    go_quiet (fail)
    go_wp2
    go_end0
    refine ⟨rfl, ?_, ?_⟩
    · unfold lastPl
      rw [if_neg ht]
      exact hr1
    · exact ((Many.of_below _ hb1).drewN _).drewN _
theorem own_form {w : World} {base : Nat} {e : TypeId} {size : Nat} {v : Value} {n : Nat} {xs : List Value} (h : w.ownsRow base e size v n xs) : ∃ A cap, v = .slice A n cap ∧ n ≤ cap ∧ (cap : Int) ≤ 9223372036854775807 ∧ (0 < n → ∃ g, A = some ⟨g, 0, none⟩) := by
  have hmx : maxLen = 9223372036854775807 := by decide
  rcases h.2 with ⟨rfl, rfl⟩ | ⟨g, cap, cur, rfl, _, _, h1, h2, _⟩
  · exact ⟨none, 0, rfl, by omega, by omega, by omega⟩
  · exact ⟨_, cap, rfl, h1, by omega, fun _ => ⟨g, rfl⟩⟩
theorem own_range {w : World} {base : Nat} {e : TypeId} {size n g cap : Nat} {xs : List Value} (h : w.ownsRow base e size (.slice (some ⟨g, 0, none⟩) n cap) n xs) (k : Nat) (ys : List Value) (hy : ∀ j u, ys[j]? = some u → xs[k + j]? = some u) : w.rangeAt g k ys := by
  have := (RowAt.ofOwn h).range k ys hy
  rwa [Nat.zero_add] at this
theorem own_wr {w : World} {g cap : Nat} {l : List DskP.Wr} (h : w.ownsRow 0 91 67 (.slice (some ⟨g, 0, none⟩) l.length cap) l.length (cellsWr l)) (hl : ∀ x ∈ l, x.data.length = 64) {i : Nat} (hi : i < l.length) : w.rangeAt g (i * 67) (encWr l[i]) :=
  own_range h (i * 67) _ fun j u hu => by
    have hj := (List.getElem?_eq_some_iff.1 hu).1
    rw [encWr_len (hl _ (List.getElem_mem hi))] at hj
    rw [cellsWr_at hl i j hi hj]
    exact hu
def zeroWr : Array Value := #[.int .i64 0, .int .i64 0, .int .i64 0] ++ Array.replicate 64 (.int .u8 0)
theorem zinfo_write : (Tryz.prog.info? 91).map (fun i => (i.zero, i.size)) = some (some (.agg zeroWr), 67) := by kernel_rfl
theorem zeroWr_size : zeroWr.size = 67 := by decide
theorem waitingOf_snoc (node : Int) (l : List DskP.Wr) (x : DskP.Wr) : waitingOf node (l ++ [x]) = waitingOf node l + if (x.node : Int) = node then 1 else 0 := by
  unfold waitingOf
  rw [List.filter_append, List.length_append]
  by_cases h : (x.node : Int) = node <;> simp [h]
theorem waitingOf_le (node : Int) (l : List DskP.Wr) : waitingOf node l ≤ l.length := List.length_filter_le _ _

theorem disarm_any {S : Nat → Prop} (p : Nat) (D : Dsk) (w : World) (h : DiskAt S w p D) : Calls Tryz.prog 50 #[.pointer (some ⟨p, 0, none⟩)] w fun e w' => e = .returned (.tuple #[]) ∧ DiskAt S w' p (disarmD D) ∧ Many S w w' := by
  obtain ⟨pv, wv, kv, k1, k2, k3, k4, k5⟩ := h.mem
  have c9 := (cells_of k1).armed
  have c10 := (cells_of k1).left
  obtain ⟨u41, c11⟩ : ∃ u, w.cell? ⟨p, 41, none⟩ = some u := ⟨_, (k1.cell 41).trans rfl⟩
  have f9 := k1.warm 39
  have f10 := k1.warm 40
  have f11 := k1.warm 41
  have HK := Lib.hid k1
  have HH := Lib.hid h
  have H2 := Lib.hid (And.intro k2 k3)
  have H5 := Lib.hid k5
  clear k1 h k2 k3 k4 k5
  go_enter Tryz.func50, Tryz.ntmps50
  go_wp2
  go_end0
  have hM := (((Many.refl S w).store HH.out.mine 39 (.bool false)).store HH.out.mine 40 (.int .i64 0)).store HH.out.mine 41 (.slice none 0 0)
  have hs := ((HK.out.put 39 (.bool false)).put 40 (.int .i64 0)).put 41 (.slice none 0 0)
  have hne : ∀ {e : TypeId} {v : Value}, e ≠ 87 → (∀ k, v.ownBlock = some k → ∃ cur, Sits w k e cur) → ∀ k, v.ownBlock = some k → (((w.setCell ⟨p, 39, none⟩ (.bool false)).setCell ⟨p, 40, none⟩ (.int .i64 0)).setCell ⟨p, 41, none⟩ (.slice none 0 0)).heap[k]? = w.heap[k]? := by
    intro e v he hr k hk
    obtain ⟨cur, hc⟩ := hr k hk
    have := hc.apart HK.out he
    rw [Below.heap_setCell _ _ _ _ this, Below.heap_setCell _ _ _ _ this, Below.heap_setCell _ _ _ _ this]
  refine ⟨rfl, ⟨HH.out.good.disarm, HH.out.mine, pv, wv, .slice none 0 0, hs, H2.out.1.keep (hne (by decide) H2.out.1.sits), own_keep H2.out.2 (hne (by decide) (own_sits H2.out.2)), RowAt.nil _ _ _ _, fun b hb => ?_⟩, hM⟩
  rcases hb with hb | hb | hb
  · exact H5.out b (.inl hb)
  · exact H5.out b (.inr (.inl hb))
  · simp [Value.ownBlock] at hb
end Go.Proofs.YtmlhncheodpbpaaGreat
