/- Package wire: Digits; and the statements' own first call, alive: it answers true, whatever the world, where strconv's table holds the powers of ten. -/
import Derived.Test.YthhnpanacnpaeaaDoorWireB
import Derived.Test.YthhnpanacnpaeaaDoorWireS
namespace Go.Proofs.YthhnpanacnpaeaaDoor
open Go Go.RowKit
set_option maxRecDepth 100000
/-- strconv's table of powers of ten reads as it was laid. -/
def Tab (w : World) : Prop := Lib.TabIs Tryd.prog w "internal/strconv.uint64pow10" .u64 Lib.pow10Tab
theorem Tab.below {w w' : World} (h : Tab w) (hb : Below w.heap.size w w') : Tab w' := by
  have hg : Tryd.prog.globalNamed "internal/strconv.uint64pow10" = some 1 := by kernel_rfl
  unfold Tab Lib.TabIs World.var? at h ⊢
  rw [hg] at h ⊢
  simp only [Option.bind_some] at h ⊢
  have hlt : 1 < w.heap.size := by
    rcases Nat.lt_or_ge 1 w.heap.size with h' | h'
    · exact h'
    · rw [Array.getElem?_eq_none h'] at h; cases h
  rw [hb.block _ hlt]
  exact h

theorem digits_any (n : Int) (w : World) (h0 : -9223372036854775808 ≤ n) (h1 : n ≤ 9223372036854775807) (hT : Tab w) : Calls Tryd.prog 41 #[.int .i64 n] w fun e w' => e = .returned (.string (str (Lib.itoa n))) ∧ Below w.heap.size w w' := by
  have hc := Tryd.strconv_Itoa n h0 h1 w hT
  have HC := Lib.hid hc
  clear hc h0 h1
  go_enter Tryd.func41, Tryd.ntmps41
  go_wp2_with (go_at_call 61; refine HC.out.mono ?_; rintro e w' ⟨rfl, k, os, rfl⟩)
  go_ret
  refine ⟨rfl, ⟨rfl, rfl, rfl, by simp [Sort.grow], fun i hi => ?_⟩⟩
  show ((w.drewN k).heap ++ os)[i]? = _
  rw [Array.getElem?_append_left (by show i < w.heap.size; omega)]
  rfl
theorem itoa_seven : Lib.itoa (-7) = [45, 55] := by
  rw [Lib.itoa, if_pos (by decide), show (-7 : Int).natAbs = 7 from rfl, Lib.decDigits]
  rfl

theorem str_toList (l : List UInt8) : (str l).toList = l := by rw [ByteArray.toList_eq, str_list]

theorem alive_any (w : World) (hT : Tab w) : Calls Tryd.prog 12 #[] w fun e w' => e = .returned (.bool true) ∧ Below w.heap.size w w' := by
  go_enter Tryd.func12, Tryd.ntmps12
  go_wp2_with fail
  have h0 := Wr.zero w
  have b0 := (Below.refl w.heap.size w).alloc (Nat.le_refl _) (.cells #[.pointer none, .int .i64 0, .int .i64 0] 29)
  refine (wnum_any w.heap.size [] 0 258 2 _ h0 (by omega) (by simp)).mono ?_
  rintro e w1 ⟨rfl, h1, o1⟩
  rw [show wnum 258 2 [] 0 = ([2, 1], 0) by decide] at h1
  have b1 := Below.then_only b0 o1 (Nat.le_refl _) b0.size
  clear b0 o1
  go_wp2_with fail
  refine (wtext_any w.heap.size [2, 1] 0 (str [97]) 9 _ h1 (by simp)).mono ?_
  rintro e w2 ⟨rfl, h2, o2⟩
  rw [str_list, show wtext [97] 9 [2, 1] 0 = ([2, 1, 1, 0, 97], 0) by decide] at h2
  have b2 := Below.then_only b1 o2 (Nat.le_refl _) b1.size
  clear b1 o2
  go_wp2_with fail
  refine (wflag_any w.heap.size [2, 1, 1, 0, 97] 0 true _ h2 (by simp)).mono ?_
  rintro e w3 ⟨rfl, h3, o3⟩
  rw [show wnum (if true then 1 else 0) 1 [2, 1, 1, 0, 97] 0 = ([2, 1, 1, 0, 97, 1], 0) by decide] at h3
  have b3 := Below.then_only b2 o3 (Nat.le_refl _) b2.size
  clear b2 o3
  go_wp2_with fail
  refine (wbytes_ok w.heap.size [2, 1, 1, 0, 97, 1] _ h3 (by simp)).mono ?_
  rintro e w4 ⟨rfl, o4⟩
  have b4 := b3.trans (o4.mono b3.size)
  clear b3 o4
  have ht := str_toList [2, 1, 1, 0, 97, 1]
  go_wp2_with fail
  clear ht
  refine (newreader_any _ _).mono ?_
  rintro e w5 ⟨rfl, h5, o5⟩
  have b5 := b4.trans (o5.mono b4.size)
  clear o5
  have ht := str_toList [2, 1, 1, 0, 97, 1]
  go_wp2_with fail
  clear ht
  refine (rnum_any w4.heap.size [2, 1, 5] 0 2 _ h5 (by simp)).mono ?_
  rintro e w6 ⟨rfl, h6, o6⟩
  rw [show rnum 2 [2, 1, 5] 0 = (258, [5], 0) by decide] at h6 ⊢
  have b6 := Below.then_only b5 o6 b4.size b5.size
  clear o6 b5
  go_wp2_with fail
  refine (rend_any w4.heap.size [5] 0 _ h6 (by simp)).mono ?_
  rintro e w7 ⟨rfl, rfl⟩
  rw [show rend [5] 0 = 4 by decide]
  go_wp2_with fail
  refine (digits_any (-7) _ (by omega) (by omega) (hT.below b6)).mono ?_
  rintro e w7 ⟨rfl, o7⟩
  rw [itoa_seven]
  have b7 := b6.trans (o7.mono b6.size)
  clear b6 o7
  have ht := str_toList [45, 55]
  go_wp2
  go_ret
  exact ⟨rfl, b7⟩
end Go.Proofs.YthhnpanacnpaeaaDoor
