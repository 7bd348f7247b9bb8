/- Package ring: a ring of elements of several cells: List. -/
import Derived.Test.YtbpcbdlmkoajdaaRingBM
import Derived.Laws.CopyOwn
namespace Go.Proofs.Ytbpcbdlmkoajdaa
open Go Go.RowKit
set_option maxRecDepth 100000
set_option maxHeartbeats 1000000
set_option linter.unusedSimpArgs false

def encM (x : Msg) : List Value := [(.string (str x.d)), (.int .i64 (x.l : Int))]
theorem encM_len (x : Msg) : (encM x).length = 2 := rfl
def cellsM (l : List Msg) : List Value := l.flatMap encM
theorem cellsM_length (l : List Msg) : (cellsM l).length = l.length * 2 := by
  unfold cellsM
  induction l with
  | nil => rfl
  | cons x l ih => simp only [List.flatMap_cons, List.length_append, encM_len, List.length_cons] at ih ⊢; omega
theorem cellsM_cons (x : Msg) (l : List Msg) : cellsM (x :: l) = encM x ++ cellsM l := by simp [cellsM]
theorem cellsM_at : ∀ (l : List Msg) (i j : Nat) (h : i < l.length), j < 2 → (cellsM l)[i * 2 + j]? = (encM l[i])[j]?
  | x :: l, 0, j, _, hj => by
    rw [cellsM_cons, Nat.zero_mul, Nat.zero_add, List.getElem?_append_left (by rw [encM_len]; exact hj)]
    rfl
  | x :: l, i + 1, j, h, hj => by
    rw [cellsM_cons, List.getElem?_append_right (by rw [encM_len]; omega), encM_len, show (i + 1) * 2 + j - 2 = i * 2 + j by omega]
    exact cellsM_at l i j (by simpa using h) hj
theorem cellsM_one (l : List Msg) : ∀ u ∈ cellsM l, u.oneCell' = true := by
  intro u hu
  unfold cellsM at hu
  obtain ⟨s, _, hs⟩ := List.mem_flatMap.1 hu
  simp only [encM, List.mem_cons, List.not_mem_nil, or_false] at hs
  rcases hs with rfl | rfl <;> rfl
theorem arrM_put (cur : Array Value) (l : List Msg) (k : Nat) (y : Msg) (hz : cur.size = l.length * 2) (h : ∀ i (_ : i < l.length), i < k → cur[i * 2]? = some (.string (str l[i].d)) ∧ cur[i * 2 + 1]? = some (.int .i64 (l[i].l : Int))) {hk : k < l.length} (hy : y = l[k]) :
    ∀ i (_ : i < l.length), i < k + 1 → ((cur.setIfInBounds (k * 2) (.string (str y.d))).setIfInBounds (k * 2 + 1) (.int .i64 (y.l : Int)))[i * 2]? = some (.string (str l[i].d)) ∧ ((cur.setIfInBounds (k * 2) (.string (str y.d))).setIfInBounds (k * 2 + 1) (.int .i64 (y.l : Int)))[i * 2 + 1]? = some (.int .i64 (l[i].l : Int)) := by
  intro i hi h1
  simp only [Array.getElem?_setIfInBounds, Array.size_setIfInBounds]
  by_cases e : k = i
  · subst e
    rw [← hy]
    refine ⟨?_, ?_⟩ <;> simp <;> omega
  · have e4 := h i hi (by omega)
    refine ⟨?_, ?_⟩
    · rw [if_neg (by omega), if_neg (by omega)]; exact e4.1
    · rw [if_neg (by omega), if_neg (by omega)]; exact e4.2
theorem arrM_ext (cur : Array Value) (l : List Msg) (hz : cur.size = l.length * 2) (h : ∀ i (_ : i < l.length), cur[i * 2]? = some (.string (str l[i].d)) ∧ cur[i * 2 + 1]? = some (.int .i64 (l[i].l : Int))) : cur = (cellsM l).toArray := by
  refine Array.ext_getElem? fun i => ?_
  by_cases hi : i < l.length * 2
  · have h0 : i / 2 < l.length := by omega
    have e1 := h (i / 2) h0
    have e2 := cellsM_at l (i / 2) (i % 2) h0 (by omega)
    have e3 : i / 2 * 2 + i % 2 = i := by omega
    rw [e3] at e2
    have e9 : (cellsM l).toArray[i]? = (cellsM l)[i]? := by simp
    rw [e9, e2]
    rcases (show i % 2 = 0 ∨ i % 2 = 1 by omega) with e5 | e5
    · rw [e5]
      have e6 := e1.1
      rw [show i / 2 * 2 = i by omega] at e6
      rw [e6]; rfl
    · rw [e5]
      have e6 := e1.2
      rw [show i / 2 * 2 + 1 = i by omega] at e6
      rw [e6]; rfl
  · have e9 : (cellsM l).toArray[i]? = (cellsM l)[i]? := by simp
    rw [Array.getElem?_eq_none (by omega), e9, List.getElem?_eq_none (by rw [cellsM_length]; omega)]
theorem listM_any (p g room : Nat) (l : List Msg) (w : World) (h : RingM w p g room l) :
    Calls Try.prog 19 #[.pointer (some ⟨p, 0, none⟩)] w fun e w' => e = .returned (.slice (some ⟨w.heap.size, 0, none⟩) l.length l.length) ∧
      Sits w' w.heap.size 46 (cellsM l).toArray ∧ Below w.heap.size w w' := by
  have HR := Lib.hid h
  obtain ⟨h1, h2, _⟩ := h.head
  obtain ⟨i0, hi, hz0, hz1, hz2⟩ := info_parts infoM
  have hmk := run_make (P := Try.prog) w 51 46 i0 _ Try.underlying51 hi hz0 .i64 .i64 l.length l.length (by omega) (by omega) (by rw [hz2]; omega) (by omega)
  simp only [Int.toNat_natCast, hz1] at hmk
  have hll : (l.length : Int) ≤ 100000 := by omega
  have HR := Lib.hid (h.below ((Below.refl _ w).alloc (Nat.le_refl _) (.cells (madeCells (Value.cells (.agg #[(.string ⟨#[]⟩), (.int .i64 0)])) (l.length * 2)) 46)))
  have HS := Lib.hid (Sits.fresh w 46 (madeCells (Value.cells (.agg #[(.string ⟨#[]⟩), (.int .i64 0)])) (l.length * 2)))
  have HB := Lib.hid ((Below.refl w.heap.size w).alloc (Nat.le_refl _) (.cells (madeCells (Value.cells (.agg #[(.string ⟨#[]⟩), (.int .i64 0)])) (l.length * 2)) 46))
  have HL := Lib.hid h
  have hsz : (madeCells (Value.cells (.agg #[(.string ⟨#[]⟩), (.int .i64 0)])) (l.length * 2)).size = l.length * 2 := size_madeCells _ _
  generalize madeCells (Value.cells (.agg #[(.string ⟨#[]⟩), (.int .i64 0)])) (l.length * 2) = cz at hmk HR HS HB hsz
  have HZ := Lib.hid hsz
  clear h h1 h2 hi hz0 hz1 hz2 hsz
  go_enter Try.func19, Try.ntmps19
  go_wp2_with fail
  refine (lenM_any p g room l _ HL.out).mono ?_
  rintro e w' ⟨rfl, rfl⟩
  go_wp2
  go_loopw [10] (fun i wr => ∃ k : Nat, k ≤ l.length ∧ i = .int .i64 k ∧ RingM wr p g room l ∧ Below w.heap.size w wr ∧
    ∃ cur, Sits wr w.heap.size 46 cur ∧ cur.size = l.length * 2 ∧ ∀ i (_ : i < l.length), i < k → cur[i * 2]? = some (.string (str l[i].d)) ∧ cur[i * 2 + 1]? = some (.int .i64 (l[i].l : Int))) (fun i _ => l.length - (intOf i).toNat)
  case atStart => exact ⟨0, by omega, rfl, HR.out, HB.out, cz, HS.out, HZ.out, fun i _ h => by omega⟩
  case round =>
    obtain ⟨k, hk, rfl, hR, hB, cur, hS, hz, hcur⟩ := hrel
    by_cases hlt : k < l.length
    · obtain ⟨n, first, hc⟩ := hR.full (by omega)
      have c1 := hc.sits.cell 1
      have hs := hc.small
      have hl := hc.len_le
      have hn := hc.n_le
      obtain ⟨rc, hg, hrz, hrc⟩ := hc.cells
      obtain ⟨hq0, hq1⟩ := hrc k hlt
      have cg0 := hg.cell (((first + k) % n) * 2)
      rw [hq0] at cg0
      clear hq0
      have cg1 := hg.cell (((first + k) % n) * 2 + 1)
      rw [hq1] at cg1
      clear hq1
      have hml : ((first + k) % n) < n := Nat.mod_lt _ (by have := hc.first_lt; omega)
      obtain ⟨y, hy⟩ : ∃ y, y = l[k] := ⟨_, rfl⟩
      rw [← hy] at cg0 cg1
      have hck0 : wr.cell? ⟨w.heap.size, k * 2, none⟩ = some cur[k * 2] := by rw [hS.cell (k * 2)]; simp [hz] <;> omega
      have fck0 := hS.warm (k * 2)
      generalize cur[k * 2] = old0 at hck0
      have hck1 : wr.cell? ⟨w.heap.size, k * 2 + 1, none⟩ = some cur[k * 2 + 1] := by rw [hS.cell (k * 2 + 1)]; simp [hz] <;> omega
      have fck1 := hS.warm (k * 2 + 1)
      generalize cur[k * 2 + 1] = old1 at hck1
      have hgw : p ≠ w.heap.size ∧ g ≠ w.heap.size := by
        have := HL.out.lt
        omega
      have hnew := fun j => (((hS.drewN j).put (k * 2) (.string (str y.d))).put (k * 2 + 1) (.int .i64 (y.l : Int)))
      have hkeep := fun j => (((hR.drewN j).away hgw.1 hgw.2 (k * 2) (.string (str y.d))).away hgw.1 hgw.2 (k * 2 + 1) (.int .i64 (y.l : Int)))
      have hbel := fun j => (below_put (below_put (below_drewN hB j) (Nat.le_refl _) (k * 2) (.string (str y.d))) (Nat.le_refl _) (k * 2 + 1) (.int .i64 (y.l : Int)))
      obtain ⟨m, hm⟩ : ∃ m, m = (first + k) % n := ⟨_, rfl⟩
      rw [← hm] at cg0 cg1 hml
      have HC := Lib.hid hc
      have HM := Lib.hid hm
      have HKM : Hid (k ≤ 100000) := Lib.hid (by omega)
      have HNEW := Lib.hid hnew
      have HKEEP := Lib.hid hkeep
      have HBEL := Lib.hid hbel
      have HCUR := Lib.hid (And.intro hz (And.intro hcur hy))
      have hn2 : (n : Int) ≤ 100000 := by omega
      have hlt2 : (m : Int) < (n : Int) := by omega
      clear hR hB hS hz hcur hc hs hl hn hg hrz hrc hm hnew hkeep hbel hgw hy
      go_wp2_with fail
      go_region_with (refine (cellM_any p g room n first l k _ (HC.out.drewN 1) HKM.out).mono ?_; rintro e w' ⟨rfl, nn, rfl⟩; rw [← HM.out])
      all_goals go_wp2
      all_goals go_roundw
      all_goals first
        | exact ⟨k + 1, by omega, by go_num, HKEEP.out _, HBEL.out _, _, HNEW.out _, by simp [HCUR.out.1], arrM_put cur l k y HCUR.out.1 HCUR.out.2.1 HCUR.out.2.2⟩
        | (simp [intOf]; omega)
    · have hkl : k = l.length := by omega
      subst hkl
      have HB1 := Lib.hid hB
      have HS1 := Lib.hid hS
      have HC1 := Lib.hid (arrM_ext cur l hz (fun i hi => hcur i hi hi))
      clear hR hB hS hz hcur
      go_wp2
      go_ret
      rw [← HC1.out]
      exact ⟨rfl, HS1.out, HB1.out⟩
end Go.Proofs.Ytbpcbdlmkoajdaa
