/- Package ring: what New, grow and Push of a Ring[int] answer and leave. -/
import Derived.Test.YtbgogbelnipfdaaRingBI
import Derived.Laws.CopyOwn
namespace Go.Proofs.Ytbgogbelnipfdaa
open Go Go.RowKit
set_option maxRecDepth 100000
set_option maxHeartbeats 1000000
set_option linter.unusedSimpArgs false

theorem listI_nil (w : World) : Calls Try.prog 24 #[.pointer none] w fun e w' => e = .returned (.slice (some ⟨w.heap.size, 0, none⟩) 0 0) ∧ Below w.heap.size w w' := by
  obtain ⟨i0, hi, hz0, hz1, hz2⟩ := info_parts infoI
  have hmk := run_make (P := Try.prog) w 22 3 i0 _ Try.underlying22 hi hz0 .i64 .i64 0 0 (by omega) (by omega) (by rw [hz2]; omega) (by omega)
  simp only [Int.toNat_zero, hz1, Nat.mul_one] at hmk
  have HB := Lib.hid ((Below.refl w.heap.size w).alloc (Nat.le_refl _) (.cells (madeCells (Value.cells (Value.int .i64 0)) 0) 3))
  clear hi hz0 hz1 hz2
  go_enter Try.func24, Try.ntmps24
  go_wp2_with fail
  refine (lenI_nil w).mono ?_
  rintro e w' ⟨rfl, rfl⟩
  go_wp2
  go_loopw [10] (fun i wr => i = .int .i64 0 ∧ wr = w.alloc (.cells (madeCells (Value.cells (Value.int .i64 0)) 0) 3)) (fun i _ => 0)
  case atStart => exact ⟨rfl, rfl⟩
  case round =>
    obtain ⟨rfl, rfl⟩ := hrel
    go_wp2
    go_ret
    exact ⟨rfl, HB.out⟩
theorem RingCI.moved {w : World} {p g room n : Nat} {f : Value} {sv : Value} {cz : Array Value} {l : List Int} (hp : Sits w p 54 #[.int .i64 room, sv, f, .int .i64 l.length]) (hg : Sits w g 3 cz) (hz : cz.size = n)
    (hl : l.length < n) (hn : n ≤ room) (hs : room ≤ 100000) :
    RingCI (((w.setRow g (cz.toList.take 0 ++ (l.map fun x => (Value.int .i64 x)) ++ cz.toList.drop (0 + (l.map fun x => (Value.int .i64 x)).length)).toArray).setCell ⟨p, 1, none⟩ (.slice (some ⟨g, 0, none⟩) n n)).setCell ⟨p, 2, none⟩ (.int .i64 0)) p g room n 0 l := by
  have hne : g ≠ p := hg.apart hp (by decide)
  have hp1 : Sits (w.setRow g (cz.toList.take 0 ++ (l.map fun x => (Value.int .i64 x)) ++ cz.toList.drop (0 + (l.map fun x => (Value.int .i64 x)).length)).toArray) p 54 #[.int .i64 room, sv, f, .int .i64 l.length] :=
    (setRow_other w g p _ (fun e => hne e.symm)).trans hp
  have hg1 : Sits (w.setRow g (cz.toList.take 0 ++ (l.map fun x => (Value.int .i64 x)) ++ cz.toList.drop (0 + (l.map fun x => (Value.int .i64 x)).length)).toArray) g 3 _ := setRow_heap w g cz _ _ _ hg
  refine ⟨(hp1.put 1 _).put 2 _, by omega, hn, by omega, hs, _, (hg1.away (p := ⟨p, 1, none⟩) hne _).away (p := ⟨p, 2, none⟩) hne _, by simp; omega, fun i hi => ?_⟩
  rw [Nat.zero_add, Nat.mod_eq_of_lt (by omega)]
  simp [List.getElem?_append, hi]
theorem growI_room (p g room n first : Nat) (l : List Int) (w : World) (h : RingCI w p g room n first l) (hl : l.length < n) :
    Calls Try.prog 28 #[.pointer (some ⟨p, 0, none⟩)] w fun e w' => e = .returned (.tuple #[]) ∧ ∃ k, w' = w.drewN k := by
  have c1 := h.sits.cell 1
  have c3 := h.sits.cell 3
  have d : decide (l.length < n) = true := by simp [hl]
  clear h hl
  go_enter Try.func28, Try.ntmps28
  go_wp2
  go_quiet (fail)
  go_wp2
  go_returns
  exact ⟨rfl, _, rfl⟩
theorem growI_full (p g room : Nat) (l : List Int) (sv fv : Value) (A : Option Addr) (hsv : sv = .slice A l.length l.length) (w : World) (h : RingI w p g room l) (hs : Sits w p 54 #[.int .i64 room, sv, fv, .int .i64 l.length]) (hroom : l.length < room) :
    Calls Try.prog 28 #[.pointer (some ⟨p, 0, none⟩)] w fun e w' => e = .returned (.tuple #[]) ∧ (∃ n, RingCI w' p w.heap.size room n 0 l ∧ l.length < n) ∧ Two p g w w' := by
  subst hsv
  obtain ⟨h1, h2, _⟩ := h.head
  obtain ⟨n, hn⟩ : ∃ n, n = min (2 * l.length + 1) room := ⟨_, rfl⟩
  have hnl : l.length < n := by omega
  have hnr : n ≤ room := by omega
  obtain ⟨i0, hi, hz0, hz1, hz2⟩ := info_parts infoI
  have hmk := fun W => run_make (P := Try.prog) W 22 3 i0 _ Try.underlying22 hi hz0 .i64 .i64 n n (by omega) (by omega) (by rw [hz2]; omega) (by omega)
  simp only [Int.toNat_natCast, hz1, Nat.mul_one] at hmk
  have hll : (l.length : Int) ≤ 100000 := by omega
  have hw1 : IntKind.i64.wrap (2 * (l.length : Int)) = 2 * (l.length : Int) := IntWalk.i64_in _ (by omega)
  have hw2 : IntKind.i64.wrap (2 * (l.length : Int) + 1) = 2 * (l.length : Int) + 1 := IntWalk.i64_in _ (by omega)
  have hmin : (if (room : Int) < 2 * (l.length : Int) + 1 then (room : Int) else 2 * (l.length : Int) + 1) = (n : Int) := by split <;> omega
  have hmin2 : min (2 * (l.length : Int) + 1) (room : Int) = (n : Int) := by omega
  have d : decide (l.length < l.length) = false := by simp
  have c0 := hs.cell 0
  have c1 := hs.cell 1
  have c3 := hs.cell 3
  have HH := Lib.hid h
  have HS := Lib.hid hs
  have HN := Lib.hid (And.intro hnl hnr)
  have HSM := Lib.hid h1
  have hi2 : (Try.prog.info? 3).map (·.size) = some 1 := by rw [hi]; simp [hz1]
  clear h hs h1 h2 hi hz0 hz1 hz2 hn hnl hnr
  go_enter Try.func28, Try.ntmps28
  go_wp2
  go_quiet (fail)
  go_wp2
  go_region
  have hb := (below_drewN (Below.refl w.heap.size w) (nq + 1)).alloc (Nat.le_refl _) (.cells (madeCells #[(Value.int .i64 0)] n) 3)
  have hnew : Sits ((w.drewN (nq + 1)).alloc (.cells (madeCells #[(Value.int .i64 0)] n) 3)) w.heap.size 3 (madeCells #[(Value.int .i64 0)] n) := Sits.fresh (w.drewN (nq + 1)) _ _
  have hcz : (madeCells #[(Value.int .i64 0)] n).size = n := size_madeCells _ _
  have HW : Hid (((w.drewN (nq + 1)).alloc (.cells (madeCells #[(Value.int .i64 0)] n) 3)).heap.size = w.heap.size + 1) := Lib.hid (by simp [World.alloc, World.drewN])
  generalize (w.drewN (nq + 1)).alloc (.cells (madeCells #[(Value.int .i64 0)] n) 3) = W1 at hb hnew HW ⊢
  generalize madeCells #[(Value.int .i64 0)] n = cz at hnew hcz
  have HB := Lib.hid hb
  have HNEW := Lib.hid hnew
  have HCZ := Lib.hid hcz
  clear hb hnew hcz
  go_wp2_with fail
  refine (listI_any p g room l _ (HH.out.below HB.out)).mono ?_
  rintro e w2 ⟨rfl, hL, hb2⟩
  rw [HW.out] at hL ⊢
  have hnew2 := HNEW.out.below' hb2
  have hcz := HCZ.out
  have hb3 := HB.out.trans (hb2.mono HB.out.size)
  have hs2 := HS.out.below' hb3
  have hcp := run_copy_row (P := Try.prog) w2 22 22 3 3 w.heap.size 0 n n ⟨w.heap.size + 1, 0, none⟩ l.length l.length cz 3 (l.map fun x => (Value.int .i64 x)) Try.underlying22 (by rw [hi2]) hnew2
    (by have := HN.out; rw [List.length_map]; exact (Nat.min_eq_left (by omega)).symm) (fun j u hu => by
      rw [show (⟨w.heap.size + 1, 0, none⟩ : Addr).add j = ⟨w.heap.size + 1, j, none⟩ by unfold Addr.add; split <;> simp_all, hL.cell j]
      simpa using hu) (by have := HN.out; simp; omega) (by intro u hu; obtain ⟨x, _, rfl⟩ := List.mem_map.1 hu; rfl)
  have hf := RingCI.moved hs2 hnew2 hcz HN.out.1 HN.out.2 HSM.out
  have hs3 : Sits (w2.setRow w.heap.size (cz.toList.take 0 ++ (l.map fun x => (Value.int .i64 x)) ++ cz.toList.drop (0 + (l.map fun x => (Value.int .i64 x)).length)).toArray) p 54 _ := (setRow_other w2 w.heap.size p _ (fun e => by have := HS.out.lt; omega)).trans hs2
  have ht3 := Two.of_below p g (Go.below_setRow hb3 (Nat.le_refl w.heap.size) (cz.toList.take 0 ++ (l.map fun x => (Value.int .i64 x)) ++ cz.toList.drop (0 + (l.map fun x => (Value.int .i64 x)).length)).toArray)
  generalize w2.setRow w.heap.size (cz.toList.take 0 ++ (l.map fun x => (Value.int .i64 x)) ++ cz.toList.drop (0 + (l.map fun x => (Value.int .i64 x)).length)).toArray = w3 at hcp hf hs3 ht3
  have HCP := Lib.hid hcp
  have HF := Lib.hid hf
  have HT := Lib.hid ((ht3.store1 1 (.slice (some ⟨w.heap.size, 0, none⟩) n n)).store1 2 (.int .i64 0))
  have c1 := hs3.cell 1
  have c2 := hs3.cell 2
  have f1 := hs3.warm 1
  have f2 := hs3.warm 2
  clear hL hnew2 hcz hb3 hs2 hf hs3 ht3 hcp
  have hcp := HCP.out
  go_wp2
  go_returns
  exact ⟨rfl, ⟨n, HF.out, HN.out.1⟩, HT.out⟩
end Go.Proofs.Ytbgogbelnipfdaa
