/- Package wire: Bytes of a Writer: the text of all that was put, or the first error; and the zero Writer. -/
import Derived.Test.YtieodancccefiaaGB
import Derived.Deep.LoopGhost
import Derived.Test.YtieodancccefiaaGC
namespace Go.Proofs.Ytieodancccefiaa
open Go Go.RowKit
set_option maxRecDepth 100000
theorem wbytes_nil (w : World) : Calls Try.prog 29 #[.pointer none] w fun e w' => e = .returned (.tuple #[.string (str []), .int .i64 1]) ∧ w = w' := by
  go_enter Try.func29, Try.ntmps29
  go_wp2
  go_ret2
  exact ⟨rfl, rfl⟩
theorem wbytes_bad (p : Nat) (bs : List UInt8) (e : Int) (w : World) (h : Wr w p bs e) (he : e ≠ 0) :
    Calls Try.prog 29 #[.pointer (some ⟨p, 0, none⟩)] w fun r w' => r = .returned (.tuple #[.string (str []), .int .i64 e]) ∧ Below w.heap.size w w' := by
  obtain ⟨v, ts, hs, _⟩ := h
  have c2 := hs.cell 2
  have hb : (e != 0) = true := by simpa using he
  clear he hs
  go_enter Try.func29, Try.ntmps29
  go_wp2
  go_region
  all_goals
    go_wp2
    go_ret2
    exact ⟨rfl, (Below.refl _ _).drew⟩

/-- How many bytes a chain has. -/
def cl (ts : List (List UInt8)) : Nat := ts.reverse.flatten.length
theorem cl_cons (t : List UInt8) (ts : List (List UInt8)) : cl (t :: ts) = cl ts + t.length := by simp [cl]

theorem wbytes_ok (p : Nat) (bs : List UInt8) (w : World) (h : Wr w p bs 0) (hl : bs.length ≤ 35184372088832) :
    Calls Try.prog 29 #[.pointer (some ⟨p, 0, none⟩)] w fun r w' => r = .returned (.tuple #[.string (str bs), .int .i64 0]) ∧ Below w.heap.size w w' := by
  obtain ⟨v, ts, hs, hc, hf, _⟩ := h
  have c0 := hs.cell 0
  have c1 := hs.cell 1
  have c2 := hs.cell 2
  obtain ⟨i0, hi, hz0, hz1, hz2⟩ := info_parts Try.info5
  have hmk := run_make (P := Try.prog) w 55 5 i0 _ Try.underlying55 hi hz0 .i64 .i64 bs.length bs.length (by omega) (by omega) (by rw [hz2]; omega) (by omega)
  have hp := hs.lt
  go_enter Try.func29, Try.ntmps29
  go_wp2
  clear hmk
  go_loopg [5, 6] ts.length (fun k e c wr => ∃ q ts', ts'.length = k ∧ e = .int .i64 (cl ts') ∧ c = .pointer q ∧ Chain w q ts' ∧ ts'.reverse.flatten ++ bs.drop (cl ts') = bs ∧ Sits wr w.heap.size 5 (byteCells (List.replicate (cl ts') 0 ++ bs.drop (cl ts'))) ∧ Below w.heap.size w wr)
  case atStart =>
    refine ⟨v, ts, rfl, ?_, rfl, hc, ?_, ?_, (Below.refl _ _).alloc (Nat.le_refl _) _⟩
    · rw [cl, hf]
    · rw [cl, hf]; simp
    · rw [cl, hf, byteCells_made]
      simpa using Sits.fresh w 5 (byteCells (List.replicate bs.length 0))
  case round =>
    obtain ⟨q, ts', hk, rfl, rfl, hch, hall, hrow, hb⟩ := hrel
    match ts', hch, hk with
    | [], hch, hk =>
      have hq : q = none := hch
      subst hq
      have hall' : bs = bs.drop (cl []) := by simpa using hall.symm
      have hcv := run_text_of_row (P := Try.prog) wr 55 9 5 5 w.heap.size bs.length bs.length bs Try.underlying55 Try.underlying5 Try.underlying9 (by
        have := hrow
        rw [← hall'] at this
        simpa [cl] using this) rfl
      have HA := Lib.hid hall
      have HB := Lib.hid hall'
      clear hall hall' hf
      go_wp2
      go_ret2
      exact ⟨rfl, hb⟩
    | t :: ts', hch, hk =>
      obtain ⟨hne, b, q2, rfl, hsb, hch⟩ := hch
      have hsb' := hsb.below' hb
      have p0 := hsb'.cell 0
      have p1 := hsb'.cell 1
      have hlen : cl (t :: ts') ≤ bs.length := by
        have := congrArg List.length hall
        rw [List.length_append] at this
        have e : (t :: ts').reverse.flatten.length = cl (t :: ts') := rfl
        omega
      have hcc := cl_cons t ts'
      have htl : 1 ≤ t.length := by cases t with | nil => exact absurd rfl hne | cons x t => simp
      have hts : (str t).size = t.length := str_size t
      have hcp := run_copy_text (P := Try.prog) wr.drew 55 9 3 5 w.heap.size (cl ts') (bs.length - cl ts') (bs.length - cl ts') (List.replicate (cl (t :: ts')) 0 ++ bs.drop (cl (t :: ts'))) 5 (str t) Try.underlying55 (by rw [hi]; simp [hz1]) hrow.drew (by omega) (by simp; omega)
      have hsum : cl (t :: ts') = cl ts' + (str t).size := by omega
      rw [hsum] at hlen hcp
      rw [hsum]
      have hR : (List.replicate (cl ts' + (str t).size) 0 ++ bs.drop (cl ts' + (str t).size)).take (cl ts') ++ (str t).data.toList ++ (List.replicate (cl ts' + (str t).size) 0 ++ bs.drop (cl ts' + (str t).size)).drop (cl ts' + (str t).size) = List.replicate (cl ts') 0 ++ (t ++ bs.drop (cl ts' + (str t).size)) := by
        rw [List.take_append_of_le_length (by simp), List.take_replicate, Nat.min_eq_left (by omega), List.drop_append_of_le_length (by simp), str_list]
        simp
      have hall2 : bs.drop (cl ts') = t ++ bs.drop (cl ts' + (str t).size) := by
        have e : ts'.reverse.flatten ++ (t ++ bs.drop (cl ts' + (str t).size)) = bs := by
          rw [← List.append_assoc, ← hsum]
          simpa using hall
        have e2 := congrArg (List.drop (cl ts')) e
        rw [List.drop_append_of_le_length (by rw [cl]; omega), cl, List.drop_length, List.nil_append] at e2
        exact e2.symm
      have hall3 : ts'.reverse.flatten ++ bs.drop (cl ts') = bs := by
        rw [hall2, ← List.append_assoc, ← hsum]
        simpa using hall
      rw [hR, ← hall2] at hcp
      have hnx : ∀ cs, (wr.drew.setRow w.heap.size cs).cell? ⟨b, 0, none⟩ = some (.pointer q2) := fun cs => by
        have : (wr.drew.setRow w.heap.size cs).heap[b]? = wr.heap[b]? := by
          have hlb := hsb.lt
          simp only [World.setRow, Array.getElem?_modify]
          rw [if_neg (by omega)]
          rfl
        exact (World.cell?_of_block (w := wr) (a := ⟨b, 0, none⟩) this).trans p0
      have hrow2 := hrow.drew.row (cs' := byteCells (List.replicate (cl ts') 0 ++ bs.drop (cl ts')))
      have HA := Lib.hid hall3
      have HC := Lib.hid hsum
      have HT := Lib.hid hts
      have hm1 : 1 ≤ (str t).size := by omega
      have hlt : cl ts' < bs.length := by omega
      clear hall hcc hf hts hsum htl hR hall2 hall3 hrow hc
      go_wp2
      go_region
      all_goals
        go_wp2
        go_roundg ts'.length
        case measure => rw [← hk]; simp
        case rel => exact ⟨q2, ts', rfl, rfl, rfl, hch, HA.out, hrow2, Below.row hb.drew (Nat.le_refl _) _⟩
end Go.Proofs.Ytieodancccefiaa
