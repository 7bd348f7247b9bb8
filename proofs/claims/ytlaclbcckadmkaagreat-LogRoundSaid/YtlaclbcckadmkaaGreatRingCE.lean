/- Package ring: a ring of elements of several cells: List. -/
import Derived.Test.YtlaclbcckadmkaaGreatGS
import Derived.Laws.CopyOwn
namespace Go.Proofs.YtlaclbcckadmkaaGreat
open Go Go.RowKit
set_option maxRecDepth 100000
set_option maxHeartbeats 1000000
set_option linter.unusedSimpArgs false

def encE (x : (Nat × Nat)) : List Value := [(.int .i64 (x.1 : Int)), (.int .i64 (x.2 : Int))]
theorem encE_len (x : (Nat × Nat)) : (encE x).length = 2 := rfl
def cellsE (l : List (Nat × Nat)) : List Value := l.flatMap encE
theorem cellsE_length (l : List (Nat × Nat)) : (cellsE l).length = l.length * 2 := by
  unfold cellsE
  induction l with
  | nil => rfl
  | cons x l ih => simp only [List.flatMap_cons, List.length_append, encE_len, List.length_cons] at ih ⊢; omega
theorem cellsE_cons (x : (Nat × Nat)) (l : List (Nat × Nat)) : cellsE (x :: l) = encE x ++ cellsE l := by simp [cellsE]
theorem cellsE_at : ∀ (l : List (Nat × Nat)) (i j : Nat) (h : i < l.length), j < 2 → (cellsE l)[i * 2 + j]? = (encE l[i])[j]?
  | x :: l, 0, j, _, hj => by
    rw [cellsE_cons, Nat.zero_mul, Nat.zero_add, List.getElem?_append_left (by rw [encE_len]; exact hj)]
    rfl
  | x :: l, i + 1, j, h, hj => by
    rw [cellsE_cons, List.getElem?_append_right (by rw [encE_len]; omega), encE_len, show (i + 1) * 2 + j - 2 = i * 2 + j by omega]
    exact cellsE_at l i j (by simpa using h) hj
theorem cellsE_one (l : List (Nat × Nat)) : ∀ u ∈ cellsE l, u.oneCell' = true := by
  intro u hu
  unfold cellsE at hu
  obtain ⟨s, _, hs⟩ := List.mem_flatMap.1 hu
  simp only [encE, List.mem_cons, List.not_mem_nil, or_false] at hs
  rcases hs with rfl | rfl <;> rfl
theorem arrE_put (cur : Array Value) (l : List (Nat × Nat)) (k : Nat) (y : (Nat × Nat)) (hz : cur.size = l.length * 2) (h : ∀ i (_ : i < l.length), i < k → cur[i * 2]? = some (.int .i64 (l[i].1 : Int)) ∧ cur[i * 2 + 1]? = some (.int .i64 (l[i].2 : Int))) {hk : k < l.length} (hy : y = l[k]) :
    ∀ i (_ : i < l.length), i < k + 1 → ((cur.setIfInBounds (k * 2) (.int .i64 (y.1 : Int))).setIfInBounds (k * 2 + 1) (.int .i64 (y.2 : Int)))[i * 2]? = some (.int .i64 (l[i].1 : Int)) ∧ ((cur.setIfInBounds (k * 2) (.int .i64 (y.1 : Int))).setIfInBounds (k * 2 + 1) (.int .i64 (y.2 : Int)))[i * 2 + 1]? = some (.int .i64 (l[i].2 : Int)) := by
  intro i hi h1
  simp only [Array.getElem?_setIfInBounds, Array.size_setIfInBounds]
  by_cases e : k = i
  · subst e
    rw [← hy]
    refine ⟨?_, ?_⟩ <;> simp <;> omega
  · have e4 := h i hi (by omega)
    refine ⟨?_, ?_⟩
    · rw [if_neg (by omega), if_neg (by omega)]; exact e4.1
    · rw [if_neg (by omega), if_neg (by omega)]; exact e4.2
theorem arrE_ext (cur : Array Value) (l : List (Nat × Nat)) (hz : cur.size = l.length * 2) (h : ∀ i (_ : i < l.length), cur[i * 2]? = some (.int .i64 (l[i].1 : Int)) ∧ cur[i * 2 + 1]? = some (.int .i64 (l[i].2 : Int))) : cur = (cellsE l).toArray := by
  refine Array.ext_getElem? fun i => ?_
  by_cases hi : i < l.length * 2
  · have h0 : i / 2 < l.length := by omega
    have e1 := h (i / 2) h0
    have e2 := cellsE_at l (i / 2) (i % 2) h0 (by omega)
    have e3 : i / 2 * 2 + i % 2 = i := by omega
    rw [e3] at e2
    have e9 : (cellsE l).toArray[i]? = (cellsE l)[i]? := by simp
    rw [e9, e2]
    rcases (show i % 2 = 0 ∨ i % 2 = 1 by omega) with e5 | e5
    · rw [e5]
      have e6 := e1.1
      rw [show i / 2 * 2 = i by omega] at e6
      rw [e6]; rfl
    · rw [e5]
      have e6 := e1.2
      rw [show i / 2 * 2 + 1 = i by omega] at e6
      rw [e6]; rfl
  · have e9 : (cellsE l).toArray[i]? = (cellsE l)[i]? := by simp
    rw [Array.getElem?_eq_none (by omega), e9, List.getElem?_eq_none (by rw [cellsE_length]; omega)]
theorem listE_any (p g room : Nat) (l : List (Nat × Nat)) (w : World) (h : RingE w p g room l) :
    Calls Tryz.prog 114 #[.pointer (some ⟨p, 0, none⟩)] w fun e w' => e = .returned (.slice (some ⟨w.heap.size, 0, none⟩) l.length l.length) ∧
      Sits w' w.heap.size 78 (cellsE l).toArray ∧ Below w.heap.size w w' := by
  have HR := Lib.hid h
  obtain ⟨h1, h2, _⟩ := h.head
  obtain ⟨i0, hi, hz0, hz1, hz2⟩ := info_parts infoE
  have hmk := run_make (P := Tryz.prog) w 111 78 i0 _ Tryz.underlying111 hi hz0 .i64 .i64 l.length l.length (by omega) (by omega) (by rw [hz2]; omega) (by omega)
  simp only [Int.toNat_natCast, hz1] at hmk
  have hll : (l.length : Int) ≤ 100000 := by omega
  have HR := Lib.hid (h.below ((Below.refl _ w).alloc (Nat.le_refl _) (.cells (madeCells (Value.cells (.agg #[(.int .i64 0), (.int .i64 0)])) (l.length * 2)) 78)))
  have HS := Lib.hid (Sits.fresh w 78 (madeCells (Value.cells (.agg #[(.int .i64 0), (.int .i64 0)])) (l.length * 2)))
  have HB := Lib.hid ((Below.refl w.heap.size w).alloc (Nat.le_refl _) (.cells (madeCells (Value.cells (.agg #[(.int .i64 0), (.int .i64 0)])) (l.length * 2)) 78))
  have HL := Lib.hid h
  have hsz : (madeCells (Value.cells (.agg #[(.int .i64 0), (.int .i64 0)])) (l.length * 2)).size = l.length * 2 := size_madeCells _ _
  generalize madeCells (Value.cells (.agg #[(.int .i64 0), (.int .i64 0)])) (l.length * 2) = cz at hmk HR HS HB hsz
  have HZ := Lib.hid hsz
  clear h h1 h2 hi hz0 hz1 hz2 hsz
  go_enter Tryz.func114, Tryz.ntmps114
  go_wp2_with fail
  refine (lenE_any p g room l _ HL.out).mono ?_
  rintro e w' ⟨rfl, rfl⟩
  go_wp2
  go_loopw [10] (fun i wr => ∃ k : Nat, k ≤ l.length ∧ i = .int .i64 k ∧ RingE wr p g room l ∧ Below w.heap.size w wr ∧
    ∃ cur, Sits wr w.heap.size 78 cur ∧ cur.size = l.length * 2 ∧ ∀ i (_ : i < l.length), i < k → cur[i * 2]? = some (.int .i64 (l[i].1 : Int)) ∧ cur[i * 2 + 1]? = some (.int .i64 (l[i].2 : Int))) (fun i _ => l.length - (intOf i).toNat)
  case atStart => exact ⟨0, by omega, rfl, HR.out, HB.out, cz, HS.out, HZ.out, fun i _ h => by omega⟩
  case round =>
    obtain ⟨k, hk, rfl, hR, hB, cur, hS, hz, hcur⟩ := hrel
    by_cases hlt : k < l.length
    · obtain ⟨n, first, hc⟩ := hR.full (by omega)
      have c1 := hc.sits.cell 1
      have hs := hc.small
      have hl := hc.len_le
      have hn := hc.n_le
      obtain ⟨rc, hg, hrz, hrc⟩ := hc.cells
      obtain ⟨hq0, hq1⟩ := hrc k hlt
      have cg0 := hg.cell (((first + k) % n) * 2)
      rw [hq0] at cg0
      clear hq0
      have cg1 := hg.cell (((first + k) % n) * 2 + 1)
      rw [hq1] at cg1
      clear hq1
      have hml : ((first + k) % n) < n := Nat.mod_lt _ (by have := hc.first_lt; omega)
      obtain ⟨y, hy⟩ : ∃ y, y = l[k] := ⟨_, rfl⟩
      rw [← hy] at cg0 cg1
      have hck0 : wr.cell? ⟨w.heap.size, k * 2, none⟩ = some cur[k * 2] := by rw [hS.cell (k * 2)]; simp [hz] <;> omega
      have fck0 := hS.warm (k * 2)
      generalize cur[k * 2] = old0 at hck0
      have hck1 : wr.cell? ⟨w.heap.size, k * 2 + 1, none⟩ = some cur[k * 2 + 1] := by rw [hS.cell (k * 2 + 1)]; simp [hz] <;> omega
      have fck1 := hS.warm (k * 2 + 1)
      generalize cur[k * 2 + 1] = old1 at hck1
      have hgw : p ≠ w.heap.size ∧ g ≠ w.heap.size := by
        have := HL.out.lt
        omega
      have hnew := fun j => (((hS.drewN j).put (k * 2) (.int .i64 (y.1 : Int))).put (k * 2 + 1) (.int .i64 (y.2 : Int)))
      have hkeep := fun j => (((hR.drewN j).away hgw.1 hgw.2 (k * 2) (.int .i64 (y.1 : Int))).away hgw.1 hgw.2 (k * 2 + 1) (.int .i64 (y.2 : Int)))
      have hbel := fun j => (below_put (below_put (below_drewN hB j) (Nat.le_refl _) (k * 2) (.int .i64 (y.1 : Int))) (Nat.le_refl _) (k * 2 + 1) (.int .i64 (y.2 : Int)))
      obtain ⟨m, hm⟩ : ∃ m, m = (first + k) % n := ⟨_, rfl⟩
      rw [← hm] at cg0 cg1 hml
      have HC := Lib.hid hc
      have HM := Lib.hid hm
      have HKM : Hid (k ≤ 100000) := Lib.hid (by omega)
      have HNEW := Lib.hid hnew
      have HKEEP := Lib.hid hkeep
      have HBEL := Lib.hid hbel
      have HCUR := Lib.hid (And.intro hz (And.intro hcur hy))
      have hn2 : (n : Int) ≤ 100000 := by omega
      have hlt2 : (m : Int) < (n : Int) := by omega
      clear hR hB hS hz hcur hc hs hl hn hg hrz hrc hm hnew hkeep hbel hgw hy
      go_wp2_with fail
      go_region_with (refine (cellE_any p g room n first l k _ (HC.out.drewN 1) HKM.out).mono ?_; rintro e w' ⟨rfl, nn, rfl⟩; rw [← HM.out])
      all_goals go_wp2
      all_goals go_roundw
      all_goals first
        | exact ⟨k + 1, by omega, by go_num, HKEEP.out _, HBEL.out _, _, HNEW.out _, by simp [HCUR.out.1], arrE_put cur l k y HCUR.out.1 HCUR.out.2.1 HCUR.out.2.2⟩
        | (simp [intOf]; omega)
    · have hkl : k = l.length := by omega
      subst hkl
      have HB1 := Lib.hid hB
      have HS1 := Lib.hid hS
      have HC1 := Lib.hid (arrE_ext cur l hz (fun i hi => hcur i hi hi))
      clear hR hB hS hz hcur
      go_wp2
      go_ret
      rw [← HC1.out]
      exact ⟨rfl, HS1.out, HB1.out⟩
end Go.Proofs.YtlaclbcckadmkaaGreat
