/- Package sdisk: New, Read; chapter 8's fill. -/
import Derived.Test.YtmlhncheodpbpaaGreatDskE
import Derived.Laws.MakeOwn
namespace Go.Proofs.YtmlhncheodpbpaaGreat
open Go Go.RowKit DskP
set_option maxRecDepth 100000
set_option maxHeartbeats 1000000
set_option linter.unusedSimpArgs false

def zero64 : List UInt8 := List.replicate 64 0
def newD (n : Nat) : Dsk := { on := true, n := n, pl := fun _ => ⟨zero64, zero64, 0⟩, waits := [], count := 0, ep := fun _ => 0, wd := fun _ => 0, last := 0, armed := false, left := 0, keep := [] }
def zeroPl : Array Value := Array.replicate 128 (.int .u8 0) ++ #[.int .i64 0]
theorem zeroPl_enc : zeroPl.toList = encPl ⟨zero64, zero64, 0⟩ := by
  simp [zeroPl, encPl, bl, zero64, ← List.replicate_append_replicate (n := 64) (m := 64)]
theorem zinfo_place : (Tryz.prog.info? 94).map (fun i => (i.zero, i.size, i.bytes)) = some (some (.agg zeroPl), 129, 136) := by kernel_rfl
theorem zinfo_u8 : (Tryz.prog.info? 5).map (fun i => (i.zero, i.size, i.bytes)) = some (some (.int .u8 0), 1, 1) := by kernel_rfl
theorem made_rows {z : Array Value} {k n : Nat} (hz : z.size = k) : (madeCells z (n * k)).toList = rows (fun _ => z.toList) n := by
  refine rows_ext (k := k) (fun _ _ => by simpa using hz) (by simp [madeCells]) fun i r hi hr => ?_
  have h1 : (i + 1) * k ≤ n * k := Nat.mul_le_mul_right k (by omega)
  rw [Nat.succ_mul] at h1
  have h2 : (i * k + r) % k = r := by rw [Nat.add_comm, Nat.add_mul_mod_self_right, Nat.mod_eq_of_lt hr]
  have h3 : r < z.size := by omega
  simp only [madeCells, Array.toList_map, Array.toList_range, List.getElem?_map]
  rw [List.getElem?_range (by omega)]
  simp [hz, h2]
  rw [getElem!_pos z r h3, Array.getElem?_eq_getElem h3]
theorem newD_good {n : Nat} (h : n ≤ 20000) : DGood (newD n) := ⟨fun i _ => ⟨by simp [newD, zero64], by simp [newD, zero64]⟩, by simp [newD], by simp [newD], h, by simp [newD], by simp [newD]⟩
theorem new_any (n : Nat) (h1 : 1 ≤ n) (h2 : n ≤ 20000) (w : World) : Calls Tryz.prog 31 #[.int .i64 (n : Int)] w fun e w' => ∃ p, e = .returned (.pointer (some ⟨p, 0, none⟩)) ∧ DiskAt (fun k => w.heap.size ≤ k) w' p (newD n) ∧ Below w.heap.size w w' := by
  obtain ⟨i0, hi, hz0, hz1, hz2⟩ := info_parts zinfo_place
  have hmk := run_make (P := Tryz.prog) w 84 94 i0 _ Tryz.underlying84 hi hz0 .i64 .i64 n n (by omega) (by omega) (by rw [hz2]; omega) (by omega)
  simp only [Int.toNat_natCast, hz1, show (Value.agg zeroPl).cells = zeroPl from rfl] at hmk
  obtain ⟨C, hC⟩ : ∃ C, C = madeCells zeroPl (n * 129) := ⟨_, rfl⟩
  rw [← hC] at hmk
  have hCl : C.toList = cellsPl (newD n).pl n := by
    rw [hC, made_rows (by decide), cellsPl_rows]
    exact rows_congr fun i _ => zeroPl_enc
  have d1 : decide ((n : Int) < 1) = false := by simp; omega
  have d2 : decide (20000 < (n : Int)) = false := by simp; omega
  have d3 : decide (20000 < n) = false := by simp; omega
  have d4 : decide (n < 1) = false := by simp; omega
  have HC := Lib.hid hCl
  have HN := Lib.hid (And.intro h1 h2)
  clear hz0 hz1 hz2 hi hC hCl h1 h2
  go_enter Tryz.func31, Tryz.ntmps31
  go_wp2
  go_ret
  obtain ⟨w1, hw1⟩ : ∃ w1, w1 = w.alloc (.cells C 94) := ⟨_, rfl⟩
  have hs1 : Sits w1 w.heap.size 94 C := hw1 ▸ Sits.fresh w _ _
  have hb1 : Below w.heap.size w w1 := hw1 ▸ (Below.refl _ w).alloc (Nat.le_refl _) _
  have hz1 : w1.heap.size = w.heap.size + 1 := by rw [hw1, World.size_alloc]
  refine ⟨_, rfl, ⟨newD_good HN.out.2, ?_, .slice (some ⟨w.heap.size, 0, none⟩) n n, .slice none 0 0, .slice none 0 0, ?_, ?_, World.ownsRow_nil _ _ _ _, RowAt.nil _ _ _ _, fun b hb => ?_⟩, ?_⟩
  · show w.heap.size ≤ w.heap.size + 1
    omega
  · rw [← hw1, ← hz1]; exact Sits.fresh w1 _ _
  · rw [← hw1]
    have hcz : C.size = n * 129 := by
      rw [← Array.length_toList, HC.out, cellsPl_rows, rows_len (k := 129)]
      intro i _
      exact encPl_len ⟨by simp [newD, zero64], by simp [newD, zero64]⟩
    have hs2 := hs1.alloc (.cells (dl (newD n) (.slice (some ⟨w.heap.size, 0, none⟩) n n) (.slice none 0 0) (.slice none 0 0)).toArray 87)
    refine ⟨by show (cellsPl (newD n).pl n).length = n * 129; rw [← HC.out]; simpa using hcz, .inr ⟨w.heap.size, 0, n, C, rfl, Nat.zero_le _, hs2, Nat.le_refl _, by have := HN.out; unfold maxLen; omega, by rw [Nat.zero_add]; exact Nat.le_of_eq hcz.symm, ?_⟩⟩
    rw [List.drop_zero, List.take_of_length_le (by rw [Array.length_toList]; exact Nat.le_of_eq hcz)]
    exact HC.out
  · rcases hb with hb | hb | hb <;> simp [Value.ownBlock] at hb
    omega
  · rw [← hw1]; exact hb1.alloc hb1.size _
end Go.Proofs.YtmlhncheodpbpaaGreat
