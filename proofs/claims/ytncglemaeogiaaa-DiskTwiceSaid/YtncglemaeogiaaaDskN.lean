/- What chapter 8's laws share: bytes 0, writes of one sector and of two, texts by their lengths. -/
import Derived.Test.YtncglemaeogiaaaDskM
import Derived.Test.YtncglemaeogiaaaBase
import Derived.Lib.Strings
namespace Go.Proofs.Ytncglemaeogiaaa
open Go Go.RowKit DskP
set_option maxRecDepth 100000
set_option maxHeartbeats 1000000
set_option linter.unusedSimpArgs false

theorem zmake (W : World) : (Instr.makeSlice 54 (.int .i64 64) (.int .i64 64)).run Try.prog W = .ok (.slice (some ⟨W.heap.size, 0, none⟩) 64 64) (W.alloc (.cells (byteCells zero64) 5)) := by
  obtain ⟨i0, hi, hz0, hz1, hz2⟩ := info_parts zinfo_u8
  have hmk := run_make (P := Try.prog) W 54 5 i0 _ Try.underlying54 hi hz0 .i64 .i64 64 64 (by omega) (by omega) (by rw [hz2]; omega) (by omega)
  simp only [hz1, show (Value.int .u8 0).cells = #[Value.int .u8 0] from rfl, show (64 : Int).toNat = 64 from rfl, Nat.mul_one, byteCells_made] at hmk
  exact hmk
theorem zconv (W : World) : (convert 54 9 (.slice (some ⟨W.heap.size, 0, none⟩) 64 64)).run Try.prog (W.alloc (.cells (byteCells zero64) 5)) = .ok (.string (str zero64)) (W.alloc (.cells (byteCells zero64) 5)) :=
  run_text_of_row (P := Try.prog) _ 54 9 5 5 W.heap.size 64 64 zero64 Try.underlying54 Try.underlying5 Try.underlying9 (Sits.fresh W _ _) (by simp [zero64])
theorem text_list (s : ByteArray) : ∃ l, s = str l := ⟨s.data.toList, (str_of s).symm⟩
theorem puts_one {D : Dsk} {node pos : Nat} {s : List UInt8} (h : s.length = 64) : putsD D node pos s 1 = putD D node pos s := by
  simp [putsD, List.take_of_length_le (Nat.le_of_eq h)]
theorem puts_two {D : Dsk} {node pos : Nat} {s : List UInt8} (h : s.length = 128) : putsD D node pos s 2 = putD (putD D node pos (s.take 64)) node (pos + 1) (s.drop 64) := by
  have h2 : (s.drop 64).take 64 = s.drop 64 := List.take_of_length_le (by rw [List.length_drop]; omega)
  simp [putsD, h2]
theorem write_one {D : Dsk} {node e pos : Nat} {s : List UInt8} (h1 : D.on = true) (h2 : node ≤ 16) (h3 : e ≠ 0) (h4 : D.ep node = e) (h5 : D.armed = false) (h6 : s.length = 64) (h8 : pos + 1 ≤ D.n) :
    writeF D (node : Int) e (pos : Int) s = (0, putD D node pos s) := by
  rw [write_ok h1 h2 h3 h4 h5 (n := 1) (by omega) (by omega) h8, puts_one h6]
theorem write_two {D : Dsk} {node e pos : Nat} {s : List UInt8} (h1 : D.on = true) (h2 : node ≤ 16) (h3 : e ≠ 0) (h4 : D.ep node = e) (h5 : D.armed = false) (h6 : s.length = 128) (h8 : pos + 2 ≤ D.n) :
    writeF D (node : Int) e (pos : Int) s = (0, putD (putD D node pos (s.take 64)) node (pos + 1) (s.drop 64)) := by
  rw [write_ok h1 h2 h3 h4 h5 (n := 2) (by omega) (by omega) h8, puts_two h6]
/-- The length of a text, as a walk asks it. -/
theorem len_is {a : List UInt8} {k : Nat} (h : a.length = k) : (str a).size = k := by rw [str_size, h]
theorem len_no {a : List UInt8} {k : Nat} (h : a.length ≠ k) : decide ((str a).size = k) = false ∧ ((str a).size == k) = false ∧ (((str a).size : Int) == (k : Int)) = false := by
  have : (str a).size ≠ k := by rw [str_size]; exact h
  exact ⟨decide_eq_false this, beq_eq_false_iff_ne.2 this, beq_eq_false_iff_ne.2 (by omega)⟩
theorem str_same (a : List UInt8) : ((str a).toList == (str a).toList) = true := beq_self_eq_true _
theorem str_ne (a b : List UInt8) (h : a ≠ b) : ((str a).toList == (str b).toList) = false := by
  rw [beq_eq_false_iff_ne]
  intro e
  rw [Lib.toList_data, Lib.toList_data, str_list, str_list] at e
  exact h e
end Go.Proofs.Ytncglemaeogiaaa
