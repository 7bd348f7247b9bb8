/- Chapter 11's statements: what they share: Light, One, alive. -/
import Derived.Test.YtjjjflmpindncaaRecG
import Derived.Test.YtjjjflmpindncaaRecH
import Derived.Test.YtjjjflmpindncaaInts
import Derived.Test.YtjjjflmpindncaaSumChg
import Derived.Laws.MakeOwn
namespace Go.Proofs.Ytjjjflmpindncaa
open Go Go.RowKit
set_option maxRecDepth 100000
set_option maxHeartbeats 1000000
set_option linter.unusedSimpArgs false

theorem room_one (r : Int) (x : Nat) (g : Nat) (w : World) (hr0 : -1 ≤ r) (hr1 : r ≤ 100000) (hx : (x : Int) ≤ 9223372036854775807) (hg : Sits w g 3 #[.int .i64 x]) :
    Calls Try.prog 16 #[.int .i64 r, .slice (some ⟨g, 0, none⟩) 1 1] w fun e w' => (∃ q : Int, e = .returned (.int .i64 q) ∧ -1 ≤ q ∧ q ≤ r ∧ (0 ≤ q → (x : Int) ≤ r)) ∧ w = w' := by
  have c0 : w.cell? ⟨g, 0, none⟩ = some (.int .i64 x) := hg.cell 0
  clear hg
  go_enter Try.func16, Try.ntmps16
  go_wp2
  go_loopw [0, 5] (fun v i wr => wr = w ∧ ((i = .int .i64 0 ∧ v = .int .i64 r) ∨ (i = .int .i64 1 ∧ v = .int .i64 (r - x) ∧ 0 ≤ r - x))) (fun _ i _ => 1 - (intOf i).toNat)
  case atStart => exact ⟨rfl, .inl ⟨rfl, rfl⟩⟩
  case round =>
    obtain ⟨rfl, hrel⟩ := hrel
    rcases hrel with ⟨rfl, rfl⟩ | ⟨rfl, rfl, hq⟩
    · by_cases h1 : r < 0
      · have d1 : decide (r < 0) = true := decide_eq_true h1
        go_wp2
        go_ret
        exact ⟨⟨-1, rfl, by omega, by omega, by omega⟩, rfl⟩
      · have d1 : decide (r < 0) = false := decide_eq_false h1
        by_cases h2 : r < (x : Int)
        · have d2 : decide (r < (x : Int)) = true := decide_eq_true h2
          go_wp2
          go_ret
          exact ⟨⟨-1, rfl, by omega, by omega, by omega⟩, rfl⟩
        · have d2 : decide (r < (x : Int)) = false := decide_eq_false h2
          have e1 : IntKind.i64.wrap (r - (x : Int)) = r - (x : Int) := IntWalk.i64_in _ (by omega)
          go_wp2
          go_roundw
          case rel => exact ⟨trivial, .inr ⟨rfl, rfl, by omega⟩⟩
          case measure => simp [intOf]
    · go_wp2
      go_ret
      exact ⟨⟨_, rfl, by omega, by omega, by omega⟩, rfl⟩
structure LightIm (few room : Int) (l : List Im) (e : Ending) : Prop where
  out : ∃ b : Bool, e = .returned (.bool b) ∧ (b = true → (l.length : Int) ≤ few ∧ ∀ x ∈ l, (x.d.length : Int) ≤ room)
theorem lightim_any (few room : Int) (v : Value) (l : List Im) (w : World) (h : Ims w v l) (hg : ∀ x ∈ l, ImW x) (hf0 : 0 ≤ few) (hf1 : few ≤ 1000) (hr0 : 0 ≤ room) (hr1 : room ≤ 100000) :
    Calls Try.prog 7 #[.int .i64 few, .int .i64 room, v] w fun e w' => LightIm few room l e ∧ Below w.heap.size w w' := by
  obtain ⟨A, cap, rfl, h1, h2, h3⟩ := h.read
  have hlen : (l.length : Int) ≤ 9223372036854775807 := by omega
  have H3 := Lib.hid h3
  have HG := Lib.hid hg
  clear h h3 hg
  by_cases hl : few < (l.length : Int)
  · have d1 : decide (few < (l.length : Int)) = true := decide_eq_true hl
    go_enter Try.func7, Try.ntmps7
    go_wp2
    go_ret
    exact ⟨⟨false, rfl, by simp⟩, Below.refl _ _⟩
  have d1 : decide (few < (l.length : Int)) = false := decide_eq_false hl
  go_enter Try.func7, Try.ntmps7
  go_wp2_with fail
  go_loopw [1, 7] (fun r i wr => ∃ (k : Nat) (q : Int), k ≤ l.length ∧ i = .int .i64 k ∧ r = .int .i64 q ∧ -1 ≤ q ∧ q ≤ room ∧ Hid ((0 ≤ q → ∀ x ∈ l.take k, (x.d.length : Int) ≤ room) ∧ Below w.heap.size w wr)) (fun _ i _ => l.length - (intOf i).toNat)
  case atStart => exact ⟨0, room, by omega, rfl, rfl, by omega, by omega, Lib.hid ⟨by simp, Below.refl _ _⟩⟩
  case round =>
    obtain ⟨k, q, hk, rfl, rfl, hq0, hq1, hI⟩ := hrel
    by_cases hlt : k < l.length
    · by_cases hq : 0 ≤ q
      · have d3 : decide (0 ≤ q) = true := decide_eq_true hq
        obtain ⟨b, o, rfl, hb, _, _, hc2⟩ := H3.out k hlt
        have c2 := (hI.out.2.cell (p := ⟨b, o + k * 3 + 2, none⟩) hb).trans hc2
        have hgk := HG.out _ (List.getElem_mem hlt)
        have HSN : Hid (∀ y ∈ l.take (k + 1), y ∈ l.take k ∨ y = l[k]) := Lib.hid fun y hy => by
          rw [List.take_succ_eq_append_getElem hlt, List.mem_append, List.mem_singleton] at hy
          exact hy
        clear hc2
        generalize l[k] = x at c2 hgk HSN
        have hxd := hgk.d
        have hxs := str_size x.d
        go_wp2_with fail
        have hq5 : q ≤ 100000 := by omega
        refine (room_one q x.d.length wr.heap.size _ hq0 hq5 hxd (Sits.fresh wr _ _)).mono ?_
        rintro e w2 ⟨⟨q', rfl, hq2, hq3, hq4⟩, rfl⟩
        have HB := Lib.hid (hI.out.2.alloc hI.out.2.size (.cells #[.int .i64 (x.d.length : Int)] 3))
        have HN : Hid (0 ≤ q' → ∀ y ∈ l.take (k + 1), (y.d.length : Int) ≤ room) := Lib.hid fun hz y hy => by
          rcases HSN.out y hy with h | rfl
          · exact hI.out.1 hq y h
          · have := hq4 hz
            omega
        have hq6 : q' ≤ room := by omega
        clear hI hgk HSN c2 hxd hxs hq3 hq4
        go_wp2
        go_roundw
        case rel => exact ⟨k + 1, q', by omega, by go_num, rfl, hq2, hq6, Lib.hid ⟨HN.out, HB.out⟩⟩
        case measure => simp [intOf]; omega
      · have d3 : decide (0 ≤ q) = false := decide_eq_false hq
        have HI := Lib.hid hI.out.2
        clear hI
        go_wp2
        go_ret
        exact ⟨⟨false, rfl, by simp⟩, HI.out⟩
    · obtain rfl : k = l.length := by omega
      by_cases hq : 0 ≤ q
      · have d3 : decide (0 ≤ q) = true := decide_eq_true hq
        have HI := Lib.hid hI.out
        clear hI
        go_wp2
        go_ret
        refine ⟨⟨true, rfl, fun _ => ⟨by omega, ?_⟩⟩, HI.out.2⟩
        have := HI.out.1 hq
        rwa [List.take_length] at this
      · have d3 : decide (0 ≤ q) = false := decide_eq_false hq
        have HI := Lib.hid hI.out.2
        clear hI
        go_wp2
        go_ret
        exact ⟨⟨false, rfl, by simp⟩, HI.out⟩
theorem ims_one (w : World) (i : Im) : Ims (w.alloc (.cells #[.int .i64 i.b, .int .u64 (i.v : Int), .string (str i.d)] 48)) (.slice (some ⟨w.heap.size, 0, none⟩) 1 1) [i] := by
  refine ⟨some ⟨w.heap.size, 0, none⟩, 1, rfl, Nat.le_refl _, by omega, fun k hk => ⟨w.heap.size, 0, rfl, by simp, fun j u hu => ?_⟩⟩
  obtain rfl : k = 0 := by simpa using hk
  rw [show 0 + 0 * 3 + j = j by omega, (Sits.fresh w 48 _).cell j]
  simpa [encIm] using hu
def oneI : Im := ⟨3, 4, 3 :: List.replicate 95 0⟩
theorem rone_any (w : World) : Calls Try.prog 17 #[.int .i64 3, .int .u64 4] w fun e w' => e = .returned (.agg #[.int .i64 3, .int .u64 4, .string (str (3 :: List.replicate 95 0))]) ∧ Below w.heap.size w w' := by
  obtain ⟨i0, hi, hz0, hz1, hz2⟩ := info_parts Try.info5
  obtain ⟨w0, hw0⟩ : ∃ w0, w0 = w.alloc (.cells #[.int .i64 0, .int .u64 0, .string ⟨#[]⟩] 48) := ⟨_, rfl⟩
  have hmk := run_make (P := Try.prog) w0 35 5 i0 _ Try.underlying35 hi hz0 .i64 .i64 96 96 (by omega) (by omega) (by rw [hz2]; omega) (by omega)
  obtain ⟨C, hC⟩ : ∃ C, C = byteCells (List.replicate 96 0) := ⟨_, rfl⟩
  have hC0 : C[0]? = some (.int .u8 0) := by rw [hC]; exact byteCells_get _ 0 (by simp)
  have hCl : C.size = 96 := by rw [hC, byteCells_size, List.length_replicate]
  simp only [Int.toNat_natCast, hz1, Nat.mul_one, show (Value.int .u8 0).cells = #[Value.int .u8 0] from rfl, byteCells_made, show Int.toNat 96 = 96 from rfl, ← hC] at hmk
  have hlt : w.heap.size < w0.heap.size := by rw [hw0]; simp
  have hs0 : Sits w0 w.heap.size 48 #[.int .i64 0, .int .u64 0, .string ⟨#[]⟩] := hw0 ▸ Sits.fresh w _ _
  have c0 : w0.cell? ⟨w.heap.size, 0, none⟩ = some (.int .i64 0) := hs0.cell 0
  have c1 : w0.cell? ⟨w.heap.size, 1, none⟩ = some (.int .u64 0) := hs0.cell 1
  have c2 : w0.cell? ⟨w.heap.size, 2, none⟩ = some (.string ⟨#[]⟩) := hs0.cell 2
  have f0 := hs0.warm 0
  have f1 := hs0.warm 1
  have f2 := hs0.warm 2
  have HW0 := Lib.hid hw0
  have HB0 : Hid (Below w.heap.size w w0) := Lib.hid (hw0 ▸ (Below.refl _ _).alloc (Nat.le_refl _) _)
  have hconv : (convert 35 9 (.slice (some ⟨w0.heap.size, 0, none⟩) 96 96)).run Try.prog (w0.alloc (.cells (C.setIfInBounds 0 (.int .u8 3)) 5)) = .ok (.string (str (3 :: List.replicate 95 0))) (w0.alloc (.cells (C.setIfInBounds 0 (.int .u8 3)) 5)) := by
    refine text_of_cells _ w0.heap.size 96 96 (3 :: List.replicate 95 0) (fun j hj => ?_) (by simp)
    rw [(Sits.fresh w0 5 _).cell j, hC]
    have h := byteCells_set (List.replicate 96 0) 0 3
    rw [show ((3 : UInt8).toNat : Int) = 3 from rfl] at h
    rw [h]
    exact byteCells_get _ j hj
  obtain ⟨D, hD⟩ : ∃ D, D = str (3 :: List.replicate 95 0) := ⟨_, rfl⟩
  rw [← hD] at hconv ⊢
  clear hi hz0 hz1 hz2 hC hw0 hs0 hD
  go_enter Try.func17, Try.ntmps17
  go_wp2_with fail
  rw [← HW0.out]
  rw [show (Instr.makeSlice 35 (.int .i64 96) (.int .i64 96)).run Try.prog w0 = .ok (.slice (some ⟨w0.heap.size, 0, none⟩) 96 96) (w0.alloc (.cells C 5)) from hmk]
  simp only [Result.andThen]
  rw [Oper.upon_value]
  clear hmk
  go_wp2_with fail
  refine bodyPost_ret (v := .agg #[.int .i64 3, .int .u64 4, .string D]) (by simp [results, Try.results17, go_sem, c0, c1, c2, hlt]) rfl ⟨rfl, ?_⟩
  exact (((HB0.out.setCell (Nat.le_refl _) _).setCell (Nat.le_refl _) _).setCell (Nat.le_refl _) _).alloc (by simpa using HB0.out.size) _
def rcA : Rc := ⟨1, 2, [oneI]⟩
theorem rcA_in : RcIn rcA := ⟨by decide, by decide, fun i hi => by
  obtain rfl : i = oneI := by simpa [rcA] using hi
  decide⟩
theorem rcA_put : rputF rcA = (recL rcA, 0) := by
  have hb : badB rcA = false := by decide +kernel
  unfold rputF
  rw [hb, if_neg (by simp), if_neg (by decide)]
theorem alive11_any (w : World) : Calls Try.prog 8 #[] w fun e w' => e = .returned (.bool true) ∧ Below w.heap.size w w' := by
  have hget := rget_put rcA_in (by rw [rcA_put]) [120]
  have hlen := rec_len rcA
  have hs3 : secN rcA.l.length = 3 := by decide
  rw [hs3] at hget hlen
  have HP : Hid (∀ W : World, Calls Try.prog 9 #[.agg #[.int .u64 1, .int .u64 2, .slice (some ⟨W.heap.size, 0, none⟩) 1 1]] (W.alloc (.cells #[.int .i64 3, .int .u64 4, .string (str (3 :: List.replicate 95 0))] 48)) fun e w' => e = .returned (.tuple #[.string (str (recL rcA)), .int .i64 0]) ∧ Below (W.heap.size + 1) (W.alloc (.cells #[.int .i64 3, .int .u64 4, .string (str (3 :: List.replicate 95 0))] 48)) w') := Lib.hid fun W => by
    have := rput_any ⟨1, 2, .slice (some ⟨W.heap.size, 0, none⟩) 1 1, [oneI]⟩ _ ⟨by show ((1 : Nat) : Int) < _; decide, by show ((2 : Nat) : Int) < _; decide, fun i hi => by
      obtain rfl : i = oneI := by simpa using hi
      exact ⟨⟨by decide, by decide⟩, by decide, by decide⟩, ims_one W oneI⟩
    rw [show RcV.rc ⟨1, 2, .slice (some ⟨W.heap.size, 0, none⟩) 1 1, [oneI]⟩ = rcA from rfl, rcA_put, World.size_alloc] at this
    exact this
  have HG : Hid (∀ W : World, Calls Try.prog 10 #[.string (str (recL rcA ++ [120]))] W fun e w' => ∃ A cap, e = .returned (.tuple #[.agg #[.int .u64 1, .int .u64 2, .slice A 1 cap], .int .i64 3, .int .i64 0]) ∧ Below W.heap.size W w') := Lib.hid fun W => by
    have := rget_any (recL rcA ++ [120]) (by rw [List.length_append, hlen]; decide) W
    rw [hget] at this
    refine this.mono ?_
    rintro e w' ⟨v, rfl, hrow, hb⟩
    obtain ⟨A, cap, rfl, _⟩ := hrow.form
    exact ⟨A, cap, rfl, hb⟩
  have hbh : badH ⟨1, 1, 0⟩ = false := by decide
  have HPH : Hid (∀ W : World, Calls Try.prog 14 #[.agg #[.int .u64 1, .int .u64 1, .int .i64 0]] W fun e w' => e = .returned (.tuple #[.string (str (headL ⟨1, 1, 0⟩)), .int .i64 0]) ∧ Below W.heap.size W w') := Lib.hid fun W => hput_ok ⟨1, 1, 0⟩ ⟨by decide, by decide⟩ hbh W
  have HGH : Hid (∀ W : World, Calls Try.prog 15 #[.string (str (headL ⟨1, 1, 0⟩))] W fun e w' => e = .returned (.tuple #[.agg #[.int .u64 1, .int .u64 1, .int .i64 0], .int .i64 0]) ∧ Below W.heap.size W w') := Lib.hid fun W => by
    have := hget_any (headL ⟨1, 1, 0⟩) W
    rw [hget_put ⟨by decide, by decide⟩ hbh] at this
    exact this
  have HX : Hid (str (recL rcA) ++ (⟨#[120]⟩ : ByteArray) = str (recL rcA ++ [120])) := Lib.hid (str_append (recL rcA) [120])
  have HS1 : Hid (∀ W : World, Calls Try.prog 11 #[.int .i64 1] W fun e w' => e = .returned (.int .i64 3) ∧ W = w') := Lib.hid fun W => rsectors_any 1 W
  have HS2 : Hid (∀ W : World, Calls Try.prog 11 #[.int .i64 2] W fun e w' => e = .returned (.int .i64 6) ∧ W = w') := Lib.hid fun W => rsectors_any 2 W
  have HM : Hid (∀ W : World, Calls Try.prog 13 #[.int .i64 33] W fun e w' => e = .returned (.int .i64 6) ∧ W = w') := Lib.hid fun W => rmost_any 33 W
  have hsz : (str (recL rcA)).size = 192 := by rw [str_size, hlen]
  obtain ⟨D, hD⟩ : ∃ D, D = str (3 :: List.replicate 95 0) := ⟨_, rfl⟩
  have HONE := Lib.hid rone_any
  rw [← hD] at HP HONE
  obtain ⟨y, hy⟩ : ∃ y, y = str (recL rcA) := ⟨_, rfl⟩
  rw [← hy] at HP HX hsz
  obtain ⟨z, hz⟩ : ∃ z, z = str (headL ⟨1, 1, 0⟩) := ⟨_, rfl⟩
  rw [← hz] at HPH HGH
  clear hget hlen hs3 hbh hD hy hz
  go_enter Try.func8, Try.ntmps8
  go_wp2_with fail
  refine (HONE.out _).mono ?_
  rintro e w1 ⟨rfl, hb1⟩
  have HF1 := Lib.hid hb1
  clear hb1
  go_wp2_with fail
  refine (HP.out _).mono ?_
  rintro e w2 ⟨rfl, hb2⟩
  have HF2 := Lib.hid ((HF1.out.alloc HF1.out.size _).trans (hb2.mono (by have := HF1.out.size; omega)))
  clear hb2 HF1
  go_wp2_with fail
  rw [HX.out]
  refine (HG.out _).mono ?_
  rintro e w3 ⟨A, cap, rfl, hb3⟩
  have HF3 := Lib.hid (HF2.out.trans (hb3.mono HF2.out.size))
  clear hb3 HF2
  obtain ⟨w4, hw4⟩ : ∃ w4, w4 = w3.alloc (.cells #[.int .u64 1, .int .u64 2, .slice A 1 cap] 25) := ⟨_, rfl⟩
  have HF4 : Hid (Below w.heap.size w w4) := Lib.hid (hw4 ▸ HF3.out.alloc HF3.out.size _)
  have HS4 : Hid (Sits w4 w3.heap.size 25 #[.int .u64 1, .int .u64 2, .slice A 1 cap]) := Lib.hid (hw4 ▸ Sits.fresh w3 _ _)
  have HW4 := Lib.hid hw4
  clear hw4
  go_wp2_with fail
  rw [← HW4.out]
  clear HW4
  refine (HPH.out _).mono ?_
  rintro e w5 ⟨rfl, hb5⟩
  have HF5 := Lib.hid (HF4.out.trans (hb5.mono HF4.out.size))
  have HS5 := Lib.hid (HS4.out.below' hb5)
  clear hb5 HF4 HS4
  go_wp2_with fail
  refine (HGH.out _).mono ?_
  rintro e w6 ⟨rfl, hb6⟩
  have HF6 := Lib.hid (HF5.out.trans (hb6.mono HF5.out.size))
  have HS6 := Lib.hid (HS5.out.below' hb6)
  clear hb6 HF5 HS5
  have hlt : w3.heap.size < w6.heap.size := HS6.out.lt
  have c0 : w6.cell? ⟨w3.heap.size, 0, none⟩ = some (.int .u64 1) := HS6.out.cell 0
  have c1 : w6.cell? ⟨w3.heap.size, 1, none⟩ = some (.int .u64 2) := HS6.out.cell 1
  have c2 : w6.cell? ⟨w3.heap.size, 2, none⟩ = some (.slice A 1 cap) := HS6.out.cell 2
  go_wp2_with (first
    | ((with_reducible refine (HS1.out _).mono ?_); rintro e w' ⟨rfl, rfl⟩)
    | ((with_reducible refine (HS2.out _).mono ?_); rintro e w' ⟨rfl, rfl⟩)
    | ((with_reducible refine (HM.out _).mono ?_); rintro e w' ⟨rfl, rfl⟩))
  go_ret
  exact ⟨rfl, HF6.out.alloc HF6.out.size _⟩
end Go.Proofs.Ytjjjflmpindncaa
