/- Chapter 11's statements: what they share: Light, One, alive. -/
import Derived.Test.YtlaclbcckadmkaaGreatRecG
import Derived.Test.YtlaclbcckadmkaaGreatGR
import Derived.Test.YtlaclbcckadmkaaGreatGA
import Derived.Test.YtlaclbcckadmkaaGreatGF
import Derived.Laws.MakeOwn
namespace Go.Proofs.YtlaclbcckadmkaaGreat
open Go Go.RowKit
set_option maxRecDepth 100000
set_option maxHeartbeats 1000000
set_option linter.unusedSimpArgs false

theorem room_im (r : Int) (x : Nat) (g : Nat) (w : World) (hr0 : -1 ≤ r) (hr1 : r ≤ 100000) (hx : (x : Int) ≤ 9223372036854775807) (hg : Sits w g 3 #[.int .i64 x]) :
    Calls Tryz.prog 52 #[.int .i64 r, .slice (some ⟨g, 0, none⟩) 1 1] w fun e w' => (∃ q : Int, e = .returned (.int .i64 q) ∧ -1 ≤ q ∧ q ≤ r ∧ (0 ≤ q → (x : Int) ≤ r)) ∧ w = w' := by
  have c0 : w.cell? ⟨g, 0, none⟩ = some (.int .i64 x) := hg.cell 0
  clear hg
  go_enter Tryz.func52, Tryz.ntmps52
  go_wp2
  go_loopw [0, 5] (fun v i wr => wr = w ∧ ((i = .int .i64 0 ∧ v = .int .i64 r) ∨ (i = .int .i64 1 ∧ v = .int .i64 (r - x) ∧ 0 ≤ r - x))) (fun _ i _ => 1 - (intOf i).toNat)
  case atStart => exact ⟨rfl, .inl ⟨rfl, rfl⟩⟩
  case round =>
    obtain ⟨rfl, hrel⟩ := hrel
    rcases hrel with ⟨rfl, rfl⟩ | ⟨rfl, rfl, hq⟩
    · by_cases h1 : r < 0
      · have d1 : decide (r < 0) = true := decide_eq_true h1
        go_wp2
        go_ret
        exact ⟨⟨-1, rfl, by omega, by omega, by omega⟩, rfl⟩
      · have d1 : decide (r < 0) = false := decide_eq_false h1
        by_cases h2 : r < (x : Int)
        · have d2 : decide (r < (x : Int)) = true := decide_eq_true h2
          go_wp2
          go_ret
          exact ⟨⟨-1, rfl, by omega, by omega, by omega⟩, rfl⟩
        · have d2 : decide (r < (x : Int)) = false := decide_eq_false h2
          have e1 : IntKind.i64.wrap (r - (x : Int)) = r - (x : Int) := IntWalk.i64_in _ (by omega)
          go_wp2
          go_roundw
          case rel => exact ⟨trivial, .inr ⟨rfl, rfl, by omega⟩⟩
          case measure => simp [intOf]
    · go_wp2
      go_ret
      exact ⟨⟨_, rfl, by omega, by omega, by omega⟩, rfl⟩
structure LightIm (few room : Int) (l : List Im) (e : Ending) : Prop where
  out : ∃ b : Bool, e = .returned (.bool b) ∧ (b = true → (l.length : Int) ≤ few ∧ ∀ x ∈ l, (x.d.length : Int) ≤ room)
theorem lightim_any (few room : Int) (v : Value) (l : List Im) (w : World) (h : Ims w v l) (hg : ∀ x ∈ l, ImW x) (hf0 : 0 ≤ few) (hf1 : few ≤ 1000) (hr0 : 0 ≤ room) (hr1 : room ≤ 100000) :
    Calls Tryz.prog 23 #[.int .i64 few, .int .i64 room, v] w fun e w' => LightIm few room l e ∧ Below w.heap.size w w' := by
  obtain ⟨A, cap, rfl, h1, h2, h3⟩ := h.read
  have hlen : (l.length : Int) ≤ 9223372036854775807 := by omega
  have H3 := Lib.hid h3
  have HG := Lib.hid hg
  clear h h3 hg
  by_cases hl : few < (l.length : Int)
  · have d1 : decide (few < (l.length : Int)) = true := decide_eq_true hl
    go_enter Tryz.func23, Tryz.ntmps23
    go_wp2
    go_ret
    exact ⟨⟨false, rfl, by simp⟩, Below.refl _ _⟩
  have d1 : decide (few < (l.length : Int)) = false := decide_eq_false hl
  go_enter Tryz.func23, Tryz.ntmps23
  go_wp2_with fail
  go_loopw [1, 7] (fun r i wr => ∃ (k : Nat) (q : Int), k ≤ l.length ∧ i = .int .i64 k ∧ r = .int .i64 q ∧ -1 ≤ q ∧ q ≤ room ∧ Hid ((0 ≤ q → ∀ x ∈ l.take k, (x.d.length : Int) ≤ room) ∧ Below w.heap.size w wr)) (fun _ i _ => l.length - (intOf i).toNat)
  case atStart => exact ⟨0, room, by omega, rfl, rfl, by omega, by omega, Lib.hid ⟨by simp, Below.refl _ _⟩⟩
  case round =>
    obtain ⟨k, q, hk, rfl, rfl, hq0, hq1, hI⟩ := hrel
    by_cases hlt : k < l.length
    · by_cases hq : 0 ≤ q
      · have d3 : decide (0 ≤ q) = true := decide_eq_true hq
        obtain ⟨b, o, rfl, hb, _, _, hc2⟩ := H3.out k hlt
        have c2 := (hI.out.2.cell (p := ⟨b, o + k * 3 + 2, none⟩) hb).trans hc2
        have hgk := HG.out _ (List.getElem_mem hlt)
        have HSN : Hid (∀ y ∈ l.take (k + 1), y ∈ l.take k ∨ y = l[k]) := Lib.hid fun y hy => by
          rw [List.take_succ_eq_append_getElem hlt, List.mem_append, List.mem_singleton] at hy
          exact hy
        clear hc2
        generalize l[k] = x at c2 hgk HSN
        have hxd := hgk.d
        have hxs := str_size x.d
        go_wp2_with fail
        have hq5 : q ≤ 100000 := by omega
        refine (room_im q x.d.length wr.heap.size _ hq0 hq5 hxd (Sits.fresh wr _ _)).mono ?_
        rintro e w2 ⟨⟨q', rfl, hq2, hq3, hq4⟩, rfl⟩
        have HB := Lib.hid (hI.out.2.alloc hI.out.2.size (.cells #[.int .i64 (x.d.length : Int)] 3))
        have HN : Hid (0 ≤ q' → ∀ y ∈ l.take (k + 1), (y.d.length : Int) ≤ room) := Lib.hid fun hz y hy => by
          rcases HSN.out y hy with h | rfl
          · exact hI.out.1 hq y h
          · have := hq4 hz
            omega
        have hq6 : q' ≤ room := by omega
        clear hI hgk HSN c2 hxd hxs hq3 hq4
        go_wp2
        go_roundw
        case rel => exact ⟨k + 1, q', by omega, by go_num, rfl, hq2, hq6, Lib.hid ⟨HN.out, HB.out⟩⟩
        case measure => simp [intOf]; omega
      · have d3 : decide (0 ≤ q) = false := decide_eq_false hq
        have HI := Lib.hid hI.out.2
        clear hI
        go_wp2
        go_ret
        exact ⟨⟨false, rfl, by simp⟩, HI.out⟩
    · obtain rfl : k = l.length := by omega
      by_cases hq : 0 ≤ q
      · have d3 : decide (0 ≤ q) = true := decide_eq_true hq
        have HI := Lib.hid hI.out
        clear hI
        go_wp2
        go_ret
        refine ⟨⟨true, rfl, fun _ => ⟨by omega, ?_⟩⟩, HI.out.2⟩
        have := HI.out.1 hq
        rwa [List.take_length] at this
      · have d3 : decide (0 ≤ q) = false := decide_eq_false hq
        have HI := Lib.hid hI.out.2
        clear hI
        go_wp2
        go_ret
        exact ⟨⟨false, rfl, by simp⟩, HI.out⟩
theorem ims_one (w : World) (i : Im) : Ims (w.alloc (.cells #[.int .i64 i.b, .int .u64 (i.v : Int), .string (str i.d)] 42)) (.slice (some ⟨w.heap.size, 0, none⟩) 1 1) [i] := by
  refine ⟨some ⟨w.heap.size, 0, none⟩, 1, rfl, Nat.le_refl _, by omega, fun k hk => ⟨w.heap.size, 0, rfl, by simp, fun j u hu => ?_⟩⟩
  obtain rfl : k = 0 := by simpa using hk
  rw [show 0 + 0 * 3 + j = j by omega, (Sits.fresh w 42 _).cell j]
  simpa [encIm] using hu
def oneI : Im := ⟨3, 4, 3 :: List.replicate 95 0⟩
theorem rone_any (w : World) : Calls Tryz.prog 9 #[.int .i64 3, .int .u64 4] w fun e w' => e = .returned (.agg #[.int .i64 3, .int .u64 4, .string (str (3 :: List.replicate 95 0))]) ∧ Below w.heap.size w w' := by
  obtain ⟨i0, hi, hz0, hz1, hz2⟩ := info_parts Tryz.info5
  obtain ⟨w0, hw0⟩ : ∃ w0, w0 = w.alloc (.cells #[.int .i64 0, .int .u64 0, .string ⟨#[]⟩] 42) := ⟨_, rfl⟩
  have hmk := run_make (P := Tryz.prog) w0 87 5 i0 _ Tryz.underlying87 hi hz0 .i64 .i64 96 96 (by omega) (by omega) (by rw [hz2]; omega) (by omega)
  obtain ⟨C, hC⟩ : ∃ C, C = byteCells (List.replicate 96 0) := ⟨_, rfl⟩
  have hC0 : C[0]? = some (.int .u8 0) := by rw [hC]; exact byteCells_get _ 0 (by simp)
  have hCl : C.size = 96 := by rw [hC, byteCells_size, List.length_replicate]
  simp only [Int.toNat_natCast, hz1, Nat.mul_one, show (Value.int .u8 0).cells = #[Value.int .u8 0] from rfl, byteCells_made, show Int.toNat 96 = 96 from rfl, ← hC] at hmk
  have hlt : w.heap.size < w0.heap.size := by rw [hw0]; simp
  have hs0 : Sits w0 w.heap.size 42 #[.int .i64 0, .int .u64 0, .string ⟨#[]⟩] := hw0 ▸ Sits.fresh w _ _
  have c0 : w0.cell? ⟨w.heap.size, 0, none⟩ = some (.int .i64 0) := hs0.cell 0
  have c1 : w0.cell? ⟨w.heap.size, 1, none⟩ = some (.int .u64 0) := hs0.cell 1
  have c2 : w0.cell? ⟨w.heap.size, 2, none⟩ = some (.string ⟨#[]⟩) := hs0.cell 2
  have f0 := hs0.warm 0
  have f1 := hs0.warm 1
  have f2 := hs0.warm 2
  have HW0 := Lib.hid hw0
  have HB0 : Hid (Below w.heap.size w w0) := Lib.hid (hw0 ▸ (Below.refl _ _).alloc (Nat.le_refl _) _)
  have hconv : (convert 87 9 (.slice (some ⟨w0.heap.size, 0, none⟩) 96 96)).run Tryz.prog (w0.alloc (.cells (C.setIfInBounds 0 (.int .u8 3)) 5)) = .ok (.string (str (3 :: List.replicate 95 0))) (w0.alloc (.cells (C.setIfInBounds 0 (.int .u8 3)) 5)) := by
    refine text_of_cells _ w0.heap.size 96 96 (3 :: List.replicate 95 0) (fun j hj => ?_) (by simp)
    rw [(Sits.fresh w0 5 _).cell j, hC]
    have h := byteCells_set (List.replicate 96 0) 0 3
    rw [show ((3 : UInt8).toNat : Int) = 3 from rfl] at h
    rw [h]
    exact byteCells_get _ j hj
  obtain ⟨D, hD⟩ : ∃ D, D = str (3 :: List.replicate 95 0) := ⟨_, rfl⟩
  rw [← hD] at hconv ⊢
  clear hi hz0 hz1 hz2 hC hw0 hs0 hD
  go_enter Tryz.func9, Tryz.ntmps9
  go_wp2_with fail
  rw [← HW0.out]
  rw [show (Instr.makeSlice 87 (.int .i64 96) (.int .i64 96)).run Tryz.prog w0 = .ok (.slice (some ⟨w0.heap.size, 0, none⟩) 96 96) (w0.alloc (.cells C 5)) from hmk]
  simp only [Result.andThen]
  rw [Oper.upon_value]
  clear hmk
  go_wp2_with fail
  refine bodyPost_ret (v := .agg #[.int .i64 3, .int .u64 4, .string D]) (by simp [results, Tryz.results9, go_sem, c0, c1, c2, hlt]) rfl ⟨rfl, ?_⟩
  exact (((HB0.out.setCell (Nat.le_refl _) _).setCell (Nat.le_refl _) _).setCell (Nat.le_refl _) _).alloc (by simpa using HB0.out.size) _
def rcA : Rc := ⟨1, 2, [oneI]⟩
theorem rcA_in : RcIn rcA := ⟨by decide, by decide, fun i hi => by
  obtain rfl : i = oneI := by simpa [rcA] using hi
  decide⟩
theorem rcA_put : rputF rcA = (recL rcA, 0) := by
  have hb : badB rcA = false := by decide +kernel
  unfold rputF
  rw [hb, if_neg (by simp), if_neg (by decide)]
end Go.Proofs.YtlaclbcckadmkaaGreat
