/- strings.Builder in a call of its own: what it holds, WriteString, String. (Its copyCheck has a branch that the program's text refuses: so both are walked here.) -/
import Derived.Test.YtjjjflmpindncaaShelf
import Derived.Test.YtjjjflmpindncaaBase
import Derived.Test.YtjjjflmpindncaaKit
import Derived.Test.YtjjjflmpindncaaNum
import Derived.Lib.OthersKept
import Derived.Lib.FrozenHead
namespace Go.Proofs.Ytjjjflmpindncaa
open Go Go.RowKit
set_option maxRecDepth 100000
set_option maxHeartbeats 2000000
set_option linter.unusedSimpArgs false

theorem bchk_used (b : Nat) (w : World) (h0 : w.cell? ⟨b, 0, none⟩ = some (.pointer (some ⟨b, 0, none⟩))) : Calls Try.prog 33 #[.pointer (some ⟨b, 0, none⟩)] w fun e w' => e = .returned (.tuple #[]) ∧ w = w' := by
  obtain ⟨j, hj, _⟩ := Option.map_eq_some_iff.1 Try.Builder_Extra_169.sizeBuilder
  go_enter Try.func33, Try.ntmps33
  go_wp2
  rw [Lib.run_neq_ptr_same w _ Try.underlying51 hj]
  go_wp2
  go_end0
  exact ⟨rfl, rfl⟩
theorem bchk_fresh (b : Nat) (w : World) (h0 : w.cell? ⟨b, 0, none⟩ = some (.pointer none)) (hsh : w.shape? b = some (53, 2)) (hfz : w.frozen? ⟨b, 0, none⟩ = false) :
    Calls Try.prog 33 #[.pointer (some ⟨b, 0, none⟩)] w fun e w' => e = .returned (.tuple #[]) ∧ w.setCell ⟨b, 0, none⟩ (.pointer (some ⟨b, 0, none⟩)) = w' := by
  obtain ⟨j, hj, hjs⟩ := Option.map_eq_some_iff.1 Try.Builder_Extra_169.sizeBuilder
  go_enter Try.func33, Try.ntmps33
  go_wp2
  rw [Lib.run_to_unsafe w ⟨b, 0, none⟩ Try.underlying51 Try.underlying98 hj (by rw [hjs]; decide) hsh (Nat.zero_lt_succ 1)]
  simp only [Result.andThen]
  rw [Oper.upon_value]
  go_wp2
  rw [run_callFunc_extern Try.func49 (by kernel_rfl) (by kernel_rfl) (by kernel_rfl) (e := Extern.AbiNoEscape.same) (by kernel_rfl)]
  rw [Lib.run_noEscape]
  simp only [Result.andThen]
  rw [Oper.upon_value]
  go_wp2
  rw [Lib.run_from_unsafe w ⟨b, 0, none⟩ Try.underlying98 Try.underlying51 hj hsh Try.Builder_Extra_169.liesBuilder]
  simp only [Result.andThen]
  rw [Oper.upon_value]
  go_wp2
  go_end0
  exact ⟨rfl, rfl⟩
/-- A builder of the call's own (from base on) in block b, which holds the bytes l. -/
def Bld (base b : Nat) (l : List UInt8) (w : World) : Prop := Lib.IsBuilder 53 5 base b (Lib.byteCells l) w
/-- What stands beside a builder: below the base all, and above it every block that is no row of bytes and not the builder. -/
structure Beside (base b : Nat) (w w' : World) : Prop where
  low : Below base w w'
  high : Lib.OthersKept 5 (some b) w w'
theorem Beside.refl (base b : Nat) (w : World) : Beside base b w w := ⟨Below.refl _ _, Lib.OthersKept.refl _ _ _⟩
theorem Beside.trans {base b : Nat} {w w' w'' : World} (h : Beside base b w w') (k : Beside base b w' w'') : Beside base b w w'' := ⟨h.low.trans k.low, h.high.trans k.high⟩
theorem Beside.sits {base b g t : Nat} {cs : Array Value} {w w' : World} (h : Beside base b w w') (hs : Sits w g t cs) (hg : g ≠ b) (ht : t ≠ 5) : Sits w' g t cs :=
  h.high g _ hs (fun e => hg (Option.some.inj e)) (fun c fz e => ht (by injection e))
/-- What turns nothing of old turns nothing beside a builder. -/
theorem Beside.of_below {base b : Nat} {w w' : World} (hb : Below w.heap.size w w') (hs : base ≤ w.heap.size) : Beside base b w w' :=
  ⟨hb.mono hs, fun k _ hk _ _ => (hb.block k (Array.getElem?_eq_some_iff.1 hk).1).trans hk⟩
theorem Bld.fresh (w : World) : Bld w.heap.size w.heap.size [] (w.alloc (.cells #[.pointer none, .slice none 0 0] 53)) := Lib.fresh_isBuilder _ _ w
theorem Bld.below {base b : Nat} {l : List UInt8} {w w' : World} (h : Bld base b l w) (hb : Below w.heap.size w w') : Bld base b l w' := by
  have one : ∀ {p : Value}, Lib.BuilderAt 53 5 base b p (Lib.byteCells l) w → Lib.BuilderAt 53 5 base b p (Lib.byteCells l) w' := by
    rintro p ⟨h1, v, h2, h3, h4⟩
    have hlt : b < w.heap.size := (Array.getElem?_eq_some_iff.1 h2).1
    refine ⟨h1, v, (hb.block b hlt).trans h2, ?_, h4⟩
    exact h3.kept (row := none) ⟨hb.os, hb.tape, hb.output, hb.size, fun k hk _ => hb.block k hk⟩ (by rcases hv : v.ownBlock with _ | k <;> simp)
  rcases h with h | h
  · exact .inl (one h)
  · exact .inr (one h)
theorem Bld.only {base b g t : Nat} {cs : Array Value} {l : List UInt8} {w w' : World} (h : Bld base b l w) (ho : Only g w w') (hs : Sits w g t cs) (ht : t ≠ 5) (hg : g ≠ b) : Bld base b l w' := by
  have one : ∀ {p : Value}, Lib.BuilderAt 53 5 base b p (Lib.byteCells l) w → Lib.BuilderAt 53 5 base b p (Lib.byteCells l) w' := by
    rintro p ⟨h1, v, h2, h3, h4⟩
    have hlt : b < w.heap.size := (Array.getElem?_eq_some_iff.1 h2).1
    refine ⟨h1, v, (ho.block b hlt (fun e => hg e.symm)).trans h2, ?_, h4⟩
    refine h3.kept (row := some g) ⟨ho.os, ho.tape, ho.output, ho.size, fun k hk hne => ho.block k hk (fun e => hne (by rw [e]))⟩ (.inr ?_)
    rcases h3.2 with ⟨rfl, _⟩ | ⟨g', cap, cur, rfl, _, hg', _⟩
    · simp [Value.ownBlock]
    · intro e
      simp only [Value.ownBlock, Option.some.injEq] at e
      subst e
      have := hs.symm.trans hg'
      simp only [Option.some.injEq, Obj.cells.injEq] at this
      exact ht this.2.1
  rcases h with h | h
  · exact .inl (one h)
  · exact .inr (one h)
theorem Bld.mono {base base' b : Nat} {l : List UInt8} {w : World} (h : Bld base b l w) (hb : base' ≤ base) : Bld base' b l w := by
  have one : ∀ {p : Value}, Lib.BuilderAt 53 5 base b p (Lib.byteCells l) w → Lib.BuilderAt 53 5 base' b p (Lib.byteCells l) w := by
    rintro p ⟨h1, v, h2, h3, h4⟩
    refine ⟨by omega, v, h2, ⟨h3.1, ?_⟩, h4⟩
    rcases h3.2 with hn | ⟨g, cap, cur, e1, e2, rest⟩
    · exact .inl hn
    · exact .inr ⟨g, cap, cur, e1, by omega, rest⟩
  rcases h with h | h
  · exact .inl (one h)
  · exact .inr (one h)
theorem Bld.lt {base b : Nat} {l : List UInt8} {w : World} (h : Bld base b l w) : b < w.heap.size := by
  rcases h with h | h
  · exact h.lt
  · exact h.lt
theorem Bld.sits {base b : Nat} {l : List UInt8} {w : World} (h : Bld base b l w) : ∃ cs, Sits w b 53 cs := by
  rcases h with ⟨_, v, h, _⟩ | ⟨_, v, h, _⟩
  · exact ⟨_, h⟩
  · exact ⟨_, h⟩
theorem strCells_of (s : List UInt8) : Lib.strCells (str s) = Lib.byteCells s := by rw [Lib.strCells_eq, str_list]
theorem bcopy_any (base b : Nat) (l : List UInt8) (w : World) (h : Bld base b l w) : Calls Try.prog 33 #[.pointer (some ⟨b, 0, none⟩)] w fun e w' => e = .returned (.tuple #[]) ∧
    Lib.BuilderAt 53 5 base b (.pointer (some ⟨b, 0, none⟩)) (Lib.byteCells l) w' ∧ Beside base b w w' := by
  rcases h with h | h
  · refine (bchk_fresh b w h.cell0 h.shape h.frozen0).mono ?_
    rintro e w' ⟨rfl, rfl⟩
    exact ⟨rfl, h.used _, (Below.refl base w).setCell (p := ⟨b, 0, none⟩) h.1 _, (Lib.OthersKept.refl _ _ w).setCell ⟨b, 0, none⟩ rfl _⟩
  · refine (bchk_used b w h.cell0).mono ?_
    rintro e w' ⟨rfl, rfl⟩
    exact ⟨rfl, h, Beside.refl _ _ _⟩
theorem bwrite_any (base b : Nat) (l s : List UInt8) (w : World) (h : Bld base b l w) (hB : base ≤ w.heap.size) (hlen : l.length + s.length ≤ 140737488355328) :
    Calls Try.prog 20 #[.pointer (some ⟨b, 0, none⟩), .string (str s)] w fun e w' => e = .returned (.tuple #[.int .i64 (s.length : Int), .nilIface]) ∧ Bld base b (l ++ s) w' ∧ Beside base b w w' := by
  obtain ⟨i0, hi, hz0, hz1, hz2⟩ := info_parts Try.Builder_Extra_169.infoByte
  have HC := Lib.hid (bcopy_any base b l)
  have hbl := Lib.byteCells_length l
  have hsz := str_size s
  have hst := strCells_of s
  have hap : Lib.byteCells l ++ Lib.byteCells s = Lib.byteCells (l ++ s) := by simp [Lib.byteCells]
  have hal := Lib.byteCells_length (l ++ s)
  rw [List.length_append] at hal
  obtain ⟨x, hx⟩ : ∃ x, x = str s := ⟨_, rfl⟩
  rw [← hx] at hsz hst
  rw [← hx]
  clear hx
  go_enter Try.func20, Try.ntmps20
  go_wp2_with fail
  refine (HC.out _ h).mono ?_
  rintro e w1 ⟨rfl, h1, hb1⟩
  obtain ⟨hBb, v, hbk, hown, hne⟩ := h1
  have c0 : w1.cell? ⟨b, 0, none⟩ = some (.pointer (some ⟨b, 0, none⟩)) := by rw [Lib.cell_of_heap hbk]; rfl
  have c1 : w1.cell? ⟨b, 1, none⟩ = some v := by rw [Lib.cell_of_heap hbk]; rfl
  have hs1 := hb1.low.size
  go_wp2_with (at_builtin; refine Lib.wpList_append_own_string _ rfl _ _ 35 9 rfl base 5 i0 Try.underlying35 Try.underlying9 hi hz0 hz1 hz2 _ _ _ rfl hown x rfl ?c3 ?c4 ?c5 ?_)
  case c3 => unfold maxLen; omega
  case c4 => omega
  case c5 => omega
  intro v' w2 hown' hgrow _
  have hlt : b < w1.heap.size := (Array.getElem?_eq_some_iff.1 hbk).1
  have hb2 : w2.heap[b]? = some (.cells #[.pointer (some ⟨b, 0, none⟩), v] 53 (0, 0)) := by
    rw [hgrow.block b hlt (fun e => hne e.symm)]
    exact hbk
  have d0 : w2.cell? ⟨b, 0, none⟩ = some (.pointer (some ⟨b, 0, none⟩)) := by rw [Lib.cell_of_heap hb2]; rfl
  have d1 : w2.cell? ⟨b, 1, none⟩ = some v := by rw [Lib.cell_of_heap hb2]; rfl
  have f1 : w2.frozen? ⟨b, 1, none⟩ = false := Lib.frozen_of_heap hb2 1
  obtain ⟨ao, n', cap, rfl⟩ : ∃ ao n' cap, v' = .slice ao n' cap := by
    rcases hown'.2 with ⟨hv, _⟩ | ⟨g, cap, cur, hv, _⟩
    · exact ⟨_, _, _, hv⟩
    · exact ⟨_, _, _, hv⟩
  have hown2 : w2.ownsRow base 5 1 (.slice ao n' cap) (Lib.byteCells (l ++ s)).length (Lib.byteCells (l ++ s)) := by
    first
    | (rw [hal]; simpa [hst, hap, hbl, hsz] using hown')
  have hput := Lib.BuilderAt.put (T := 53) (e := 5) hBb hb2 (bs' := Lib.byteCells (l ++ s)) hown2 (by decide)
  have hlow : Below base w ((w2.setCell ⟨b, 1, none⟩ (.slice ao n' cap))) := (hb1.low.grown hgrow (by omega) (fun k hk => (hown.lt k hk).1)).setCell (p := ⟨b, 1, none⟩) hBb _
  have hhigh : Lib.OthersKept 5 (some b) w (w2.setCell ⟨b, 1, none⟩ (.slice ao n' cap)) := (hb1.high.grown hgrow (Lib.ownsRowF_kind (World.ownsRowF_of hown))).setCell ⟨b, 1, none⟩ rfl _
  have HFIN := Lib.hid (show Bld base b (l ++ s) (w2.setCell ⟨b, 1, none⟩ (.slice ao n' cap)) ∧ Beside base b w (w2.setCell ⟨b, 1, none⟩ (.slice ao n' cap)) from ⟨.inr hput, hlow, hhigh⟩)
  clear hput hlow hhigh hb2 hgrow hown' hown2 hown hbk hst hap hal hbl
  go_wp2
  go_ret2
  exact ⟨rfl, HFIN.out⟩
theorem bstring_any (base b : Nat) (l : List UInt8) (w : World) (h : Bld base b l w) (hB : base ≤ w.heap.size) :
    Calls Try.prog 22 #[.pointer (some ⟨b, 0, none⟩)] w fun e w' => e = .returned (.string (str l)) ∧ Below base w w' := Try.Builder_String_any base b l w h hB
end Go.Proofs.Ytjjjflmpindncaa
