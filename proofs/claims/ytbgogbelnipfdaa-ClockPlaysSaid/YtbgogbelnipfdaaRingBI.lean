/- Package ring: what Pop, Drop, Clear, List of a Ring[int] answer and leave. -/
import Derived.Test.YtbgogbelnipfdaaRingI
import Derived.Test.YtbgogbelnipfdaaMinMax
namespace Go.Proofs.Ytbgogbelnipfdaa
open Go Go.RowKit
set_option maxRecDepth 100000
set_option maxHeartbeats 1000000
set_option linter.unusedSimpArgs false

theorem popI_cons (p g room : Nat) (x : Int) (l : List Int) (w : World) (h : RingI w p g room (x :: l)) :
    Calls Try.prog 26 #[.pointer (some ⟨p, 0, none⟩)] w fun e w' => e = .returned (.tuple #[(Value.int .i64 x), .bool true]) ∧ RingI w' p g room l ∧ Two p g w w' := by
  have HR := Lib.hid h
  clear h
  go_enter Try.func26, Try.ntmps26
  go_wp2_with fail
  refine (peekI_in p g room (x :: l) 0 w HR.out (by simp)).mono ?_
  rintro e w' ⟨rfl, n, rfl⟩
  simp only [List.getElem_cons_zero]
  go_wp2_with fail
  refine (leaveI_any p g room x l _ (HR.out.drewN n)).mono ?_
  rintro e w1 ⟨rfl, hR, hT⟩
  have HR1 := Lib.hid hR
  have HT := Lib.hid (((Two.refl p g w).drewN n).trans hT (.inl rfl))
  clear hR hT
  go_wp2
  go_ret2
  exact ⟨rfl, HR1.out, HT.out⟩
theorem popI_empty (p g room : Nat) (w : World) (h : RingI w p g room []) :
    Calls Try.prog 26 #[.pointer (some ⟨p, 0, none⟩)] w fun e w' => e = .returned (.tuple #[(Value.int .i64 0), .bool false]) ∧ w = w' := by
  have HR := Lib.hid h
  clear h
  go_enter Try.func26, Try.ntmps26
  go_wp2_with fail
  refine (peekI_out p g room [] 0 w HR.out (by simp)).mono ?_
  rintro e w' ⟨rfl, rfl⟩
  go_wp2
  go_ret2
  exact ⟨rfl, rfl⟩
theorem popI_nil (w : World) : Calls Try.prog 26 #[.pointer none] w fun e w' => e = .returned (.tuple #[(Value.int .i64 0), .bool false]) ∧ w = w' := by
  go_enter Try.func26, Try.ntmps26
  go_wp2_with fail
  refine (peekI_nil 0 w).mono ?_
  rintro e w' ⟨rfl, rfl⟩
  go_wp2
  go_ret2
  exact ⟨rfl, rfl⟩
theorem arrI_ext (cur : Array Value) (l : List Int) (hz : cur.size = l.length) (h : ∀ i (_ : i < l.length), cur[i]? = some (Value.int .i64 (l[i]))) : cur = (l.map (fun x => (Value.int .i64 x))).toArray := by
  refine Array.ext_getElem? fun i => ?_
  by_cases hi : i < l.length
  · rw [h i hi]
    simp [hi]
  · rw [Array.getElem?_eq_none (by omega)]
    simp
    rw [List.getElem?_eq_none (by omega)]
    rfl
theorem arrI_put (cur : Array Value) (l : List Int) (k : Nat) (y : Int) (hz : cur.size = l.length) (h : ∀ i (_ : i < l.length), i < k → cur[i]? = some (Value.int .i64 (l[i]))) {hk : k < l.length} (hy : y = l[k]) :
    ∀ i (_ : i < l.length), i < k + 1 → (cur.setIfInBounds k (Value.int .i64 y))[i]? = some (Value.int .i64 (l[i])) := by
  intro i hi h1
  rw [Array.getElem?_setIfInBounds]
  by_cases e : k = i
  · subst e
    rw [if_pos rfl, if_pos (by omega), hy]
  · rw [if_neg e]
    exact h i hi (by omega)
theorem infoI : (Try.prog.info? 3).map (fun i => (i.zero, i.size, i.bytes)) = some (some (Value.int .i64 0), 1, 8) := by kernel_rfl
theorem listI_any (p g room : Nat) (l : List Int) (w : World) (h : RingI w p g room l) :
    Calls Try.prog 24 #[.pointer (some ⟨p, 0, none⟩)] w fun e w' => e = .returned (.slice (some ⟨w.heap.size, 0, none⟩) l.length l.length) ∧
      Sits w' w.heap.size 3 (l.map (fun x => (Value.int .i64 x))).toArray ∧ Below w.heap.size w w' := by
  have HR := Lib.hid h
  obtain ⟨h1, h2, _⟩ := h.head
  obtain ⟨i0, hi, hz0, hz1, hz2⟩ := info_parts infoI
  have hmk := run_make (P := Try.prog) w 22 3 i0 _ Try.underlying22 hi hz0 .i64 .i64 l.length l.length (by omega) (by omega) (by rw [hz2]; omega) (by omega)
  simp only [Int.toNat_natCast, hz1, Nat.mul_one] at hmk
  have hll : (l.length : Int) ≤ 100000 := by omega
  have HR := Lib.hid (h.below ((Below.refl _ w).alloc (Nat.le_refl _) (.cells (madeCells (Value.cells (Value.int .i64 0)) l.length) 3)))
  have HS := Lib.hid (Sits.fresh w 3 (madeCells (Value.cells (Value.int .i64 0)) l.length))
  have HB := Lib.hid ((Below.refl w.heap.size w).alloc (Nat.le_refl _) (.cells (madeCells (Value.cells (Value.int .i64 0)) l.length) 3))
  have HL := Lib.hid h
  have hsz : (madeCells (Value.cells (Value.int .i64 0)) l.length).size = l.length := size_madeCells _ _
  generalize madeCells (Value.cells (Value.int .i64 0)) l.length = cz at hmk HR HS HB hsz
  have HZ := Lib.hid hsz
  clear h h1 h2 hi hz0 hz1 hz2 hsz
  go_enter Try.func24, Try.ntmps24
  go_wp2_with fail
  refine (lenI_any p g room l _ HL.out).mono ?_
  rintro e w' ⟨rfl, rfl⟩
  go_wp2
  go_loopw [10] (fun i wr => ∃ k : Nat, k ≤ l.length ∧ i = .int .i64 k ∧ RingI wr p g room l ∧ Below w.heap.size w wr ∧
    ∃ cur, Sits wr w.heap.size 3 cur ∧ cur.size = l.length ∧ ∀ i (_ : i < l.length), i < k → cur[i]? = some (Value.int .i64 (l[i]))) (fun i _ => l.length - (intOf i).toNat)
  case atStart => exact ⟨0, by omega, rfl, HR.out, HB.out, cz, HS.out, HZ.out, fun i _ h => by omega⟩
  case round =>
    obtain ⟨k, hk, rfl, hR, hB, cur, hS, hz, hcur⟩ := hrel
    by_cases hlt : k < l.length
    · obtain ⟨n, first, hc⟩ := hR.full (by omega)
      have c1 := hc.sits.cell 1
      have hs := hc.small
      have hl := hc.len_le
      have hn := hc.n_le
      obtain ⟨rc, hg, hrz, hrc⟩ := hc.cells
      have cg := hg.cell ((first + k) % n)
      rw [hrc k hlt] at cg
      have hml : ((first + k) % n) < n := Nat.mod_lt _ (by omega)
      obtain ⟨y, hy⟩ : ∃ y, y = l[k] := ⟨_, rfl⟩
      rw [← hy] at cg
      have hck : wr.cell? ⟨w.heap.size, k, none⟩ = some cur[k] := by rw [hS.cell k]; simp [hz, hlt]
      have fck := hS.warm k
      have hgw : p ≠ w.heap.size ∧ g ≠ w.heap.size := by
        have := HL.out.lt
        omega
      have hnew := fun j => (hS.drewN j).put k (Value.int .i64 y)
      have hkeep := fun j => (hR.drewN j).away hgw.1 hgw.2 k (Value.int .i64 y)
      have hbel := fun j => below_put (below_drewN hB j) (Nat.le_refl _) k (Value.int .i64 y)
      generalize cur[k] = old at hck
      obtain ⟨m, hm⟩ : ∃ m, m = (first + k) % n := ⟨_, rfl⟩
      rw [← hm] at cg hml
      have HC := Lib.hid hc
      have HM := Lib.hid hm
      have HKM : Hid (k ≤ 100000) := Lib.hid (by omega)
      have HNEW := Lib.hid hnew
      have HKEEP := Lib.hid hkeep
      have HBEL := Lib.hid hbel
      have HCUR := Lib.hid (And.intro hz (And.intro hcur hy))
      have hn2 : (n : Int) ≤ 100000 := by omega
      have hlt2 : (m : Int) < (n : Int) := by omega
      clear hR hB hS hz hcur hc hs hl hn hg hrz hrc hm hnew hkeep hbel hgw hy
      go_wp2_with fail
      go_region_with (refine (cellI_any p g room n first l k _ (HC.out.drewN 1) HKM.out).mono ?_; rintro e w' ⟨rfl, nn, rfl⟩; rw [← HM.out])
      all_goals go_wp2
      all_goals go_roundw
      all_goals first
        | exact ⟨k + 1, by omega, by go_num, HKEEP.out _, HBEL.out _, _, HNEW.out _, by simp [HCUR.out.1], arrI_put cur l k y HCUR.out.1 HCUR.out.2.1 HCUR.out.2.2⟩
        | (simp [intOf]; omega)
    · have hkl : k = l.length := by omega
      subst hkl
      have HB1 := Lib.hid hB
      have HS1 := Lib.hid hS
      have HC1 := Lib.hid (arrI_ext cur l hz (fun i hi => hcur i hi hi))
      clear hR hB hS hz hcur
      go_wp2
      go_ret
      rw [← HC1.out]
      exact ⟨rfl, HS1.out, HB1.out⟩
end Go.Proofs.Ytbgogbelnipfdaa
