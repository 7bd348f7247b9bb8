/- The statement BoxPlays of package ring, part one: a zero box. -/
import Derived.Test.YtffgdmdliddlpaaNewBox
import Derived.Test.YtffgdmdliddlpaaIntRow
import Derived.Test.YtffgdmdliddlpaaFlat
import Derived.Test.YtffgdmdliddlpaaBase
import Derived.OpenShut
import Derived.ChangeOld
namespace Go.Proofs.Ytffgdmdliddlpaa
open Go Go.RowKit Go.ChangeShapes Go.WideShapes Go.ChangeAt
set_option maxRecDepth 100000
set_option maxHeartbeats 2000000
set_option linter.unusedSimpArgs false

theorem RowAt.box {w w' : World} {base : Nat} {e : TypeId} {size : Nat} {v : Value} {n : Nat} {xs : List Value} {p c d most : Nat} {l : List Int} {closed : Bool}
    (h : RowAt w base e size v n xs) (hX : BoxAt w p c d most l closed) (ho : Two c d w w') : RowAt w' base e size v n xs := by
  obtain ⟨s, r, h1⟩ := hX.values
  obtain ⟨s', r', h2⟩ := hX.shut
  refine h.keep fun k hk => ?_
  obtain ⟨cur, hs⟩ := h.sits k hk
  have hs' : w.heap[k]? = _ := hs
  refine ho.block k (h.lt k hk).2 ?_ ?_
  · rintro rfl; rw [h1] at hs'; cases hs'
  · rintro rfl; rw [h2] at hs'; cases hs'
theorem refroom_any (k : Int) (w : World) (m : Nat) (hm : m = min k.toNat 100000) :
    Calls Try.prog 28 #[.int .i64 k] w fun e w' => e = .returned (.int .i64 m) ∧ w = w' := by
  obtain ⟨q, hq⟩ : ∃ q : Nat, q = k.toNat := ⟨_, rfl⟩
  have HX : Hid (max k 0 = (q : Int)) := Lib.hid (by omega)
  have HM : Hid (min (q : Int) 100000 = (m : Int)) := Lib.hid (by omega)
  clear hq hm
  go_enter Try.func28, Try.ntmps28
  go_wp2_with (first | ((with_reducible refine at_list ?_); refine wpList_max_eq rfl (.tmp 3) (.const (.int .i64 0)) _ rfl _ _ _ _ _ rfl rfl HX.out ?_) | ((with_reducible refine at_list ?_); refine wpList_min_eq rfl (.tmp 4) (.const (.int .i64 100000)) _ rfl _ _ _ _ _ rfl rfl HM.out ?_))
  go_ret
  exact ⟨rfl, rfl⟩

theorem boxPlays_zero (room : Int) (l : List Int) (A : Option Addr) (cap : Nat) (w : World) (hI : Ints w (.slice A l.length cap) l) (hl : l.length ≤ 100) :
    Calls Try.prog 5 #[.int .i64 room, .bool true, .slice A l.length cap] w fun e w' => e = .returned (.bool true) ∧ Below w.heap.size w w' := by
  obtain ⟨A', cap', e0, h1, h2, h3⟩ := hI.one_
  simp only [Value.slice.injEq, true_and] at e0
  obtain ⟨rfl, rfl⟩ := e0
  obtain ⟨m, hm⟩ : ∃ m, m = min (min room 300).toNat 100000 := ⟨_, rfl⟩
  have d1 : decide (100 < (l.length : Int)) = false := by simp; omega
  have hl100 : (l.length : Int) ≤ 100 := by omega
  have H3 := Lib.hid h3
  have HM := Lib.hid hm
  clear h3 hm hI hl
  cases t0 : decide (300 < room)
  all_goals
    have HT0 := Lib.hid t0
    go_enter Try.func5, Try.ntmps5
    go_wp2_with fail
    refine (newbox_any _ w m (by have := HM.out; have := HT0.out; simp only [decide_eq_true_eq, decide_eq_false_iff_not] at this; omega)).mono ?_
    rintro e w1 ⟨p0, rfl, hp, ⟨c, d, hc, hd, hX⟩, hB⟩
    have HB := Lib.hid hB
    clear hX hB hp hc hd c d
    go_wp2_with fail
    refine (refroom_any _ w1 m (by have := HM.out; have := HT0.out; simp only [decide_eq_true_eq, decide_eq_false_iff_not] at this; omega)).mono ?_
    rintro e w2 ⟨rfl, rfl⟩
    have HZ := Lib.hid (Sits.fresh w1 48 #[.chan none, .chan none])
    have HB1 := Lib.hid (HB.out.alloc HB.out.size (.cells #[.chan none, .chan none] 48))
    clear HB
    go_wp2_with fail
    generalize w1.alloc (.cells #[.chan none, .chan none] 48) = w2 at HZ HB1 ⊢
    generalize w1.heap.size = p at HZ ⊢
    go_loopw [11, 10, 9] (fun i b x wr => ∃ (k : Nat) (cl : Bool), k ≤ l.length ∧ i = .int .i64 k ∧ b = .bool cl ∧ x = .slice none 0 0 ∧ BoxZero wr p ∧ Below w.heap.size w wr) (fun i _ _ _ => l.length - (intOf i).toNat)
    case atStart => exact ⟨0, false, by omega, rfl, rfl, rfl, HZ.out, HB1.out⟩
    case round =>
      obtain ⟨k, cl, hk, rfl, rfl, rfl, hZ, hB⟩ := hrel
      have HZ := Lib.hid hZ
      have HB := Lib.hid hB
      clear hZ hB HB1
      by_cases hlt : k < l.length
      · obtain ⟨b, o, rfl, hb, hcb⟩ := H3.out k hlt
        have hcr := (HB.out.cell (p := ⟨b, o + k, none⟩) hb).trans hcb
        generalize l[k] = y at hcr
        clear hcb hb
        cases t3 : (bits BinOp.and .i64 y 3 == 3) <;> cases t64 : (bits BinOp.and .i64 y 64 != 0) <;> cases t1 : (bits BinOp.and .i64 y 1 == 1) <;> cases cl
        all_goals
          go_wp2_with (first
            | (go_at_call 29; refine (boxclose_zero p _ HZ.out).mono ?_; rintro e w3 ⟨rfl, rfl⟩)
            | (go_at_call 30; refine (boxtake_zero p _ HZ.out).mono ?_; rintro e w3 ⟨rfl, rfl⟩)
            | (go_at_call 31; refine (boxsend_zero p _ _ HZ.out).mono ?_; rintro e w3 ⟨rfl, rfl⟩)
            | (go_at_call 32; refine (boxlen_zero p _ HZ.out).mono ?_; rintro e w3 ⟨rfl, rfl⟩))
          go_roundw
        all_goals first
          | exact ⟨k + 1, _, by omega, by go_num, rfl, rfl, HZ.out, HB.out⟩
          | (simp [intOf]; omega)
      · go_wp2_with fail
        refine (boxed_any _).mono ?_
        rintro e w3 ⟨rfl, hb⟩
        have HB3 := Lib.hid (HB.out.trans (hb.mono HB.out.size))
        clear hb
        go_wp2
        go_ret
        exact ⟨rfl, HB3.out⟩
end Go.Proofs.Ytffgdmdliddlpaa
