/- The statement BoxPlays of package ring: every box answers every call as a list of bounded room does, and nothing ever waits; it holds of every int, every bool and every list of ints. -/
import Derived.Test.YtffgdmdliddlpaaBoxPlaysZ
import Derived.Test.YtffgdmdliddlpaaAppend2
import Derived.Test.YtffgdmdliddlpaaBase
import Derived.OpenShut
import Derived.ChangeOld
namespace Go.Proofs.Ytffgdmdliddlpaa
open Go Go.RowKit Go.ChangeShapes Go.WideShapes Go.ChangeAt
set_option maxRecDepth 100000
set_option maxHeartbeats 2000000
set_option linter.unusedSimpArgs false


/-- What a region that copies a list and puts a number behind it leaves: rows and blocks of one number. -/
def StaysIn (B : Nat) (L : List Int) (y : Int) (W W' : World) : Prop :=
  (∀ v, W.ownsRow B 3 1 v L.length (vals L) → W'.ownsRow B 3 1 v L.length (vals L)) ∧ (∀ k, Sits W k 3 #[.int .i64 y] → Sits W' k 3 #[.int .i64 y]) ∧
  ∀ v, W.ownsRow B 3 1 v (L.length + 1) (vals L ++ [.int .i64 y]) → W'.ownsRow B 3 1 v (L.length + 1) (vals L ++ [.int .i64 y])
theorem staysIn_refl {B : Nat} {L : List Int} {y : Int} (W : World) : StaysIn B L y W W := ⟨fun _ h => h, fun _ h => h, fun _ h => h⟩
theorem staysIn_below {B : Nat} {L : List Int} {y : Int} {W W' : World} (h : Below W.heap.size W W') : StaysIn B L y W W' := ⟨fun _ h' => own_stays h' h.block, fun _ h' => h'.below' h, fun _ h' => own_stays h' h.block⟩
/-- The copy. -/
theorem copy_run {B : Nat} {w W : World} {L : List Int} {y : Int} {xv : Value} (hI : Ints W xv L) (hR : Below B w W) (hB : B = w.heap.size) (hL : L.length ≤ 1000) (ty : TypeId) :
    ∃ r W', (Builtin.append_ #[40, 40] ty #[.slice none 0 0, xv]).run Try.prog W = .ok r W' ∧ Below B w W' ∧ StaysIn B L y W W' ∧ W'.ownsRow B 3 1 r L.length (vals L) ∧ (L.length = 0 → r = .slice none 0 0) := by
  have hsrc := hI.src
  have hmx : maxLen = 9223372036854775807 := by decide
  by_cases h0 : L.length = 0
  · rw [h0] at hsrc
    have e : vals L = [] := List.eq_nil_of_length_eq_zero (by rw [vals_length]; exact h0)
    refine ⟨_, W, append_none elem_int hsrc ty, hR, staysIn_refl W, ?_, fun _ => rfl⟩
    rw [h0, e]
    exact World.ownsRow_nil _ _ _ _
  · obtain ⟨r, W', h1, h2, h3, _⟩ := append_src2 (base := B) elem_int (World.ownsRow_nil W B 3 1) hsrc ty (by omega) (by omega) (by have := hR.size; omega)
    have hb := (Below.refl W.heap.size W).grown h3 (Nat.le_refl _) (by simp [Value.ownBlock])
    rw [Nat.zero_add, List.nil_append] at h2
    exact ⟨r, W', h1, hR.trans (hb.mono (by have := hR.size; omega)), staysIn_below hb, h2, fun h => absurd h h0⟩
/-- The number behind it. -/
theorem add_run {B : Nat} {w W : World} {L : List Int} {y : Int} {v : Value} {k : Nat} (hv : W.ownsRow B 3 1 v L.length (vals L)) (hv0 : L.length = 0 → v = .slice none 0 0) (hk : Sits W k 3 #[.int .i64 y]) (hR : Below B w W) (hB : B = w.heap.size) (hL : L.length ≤ 1000) (ty : TypeId) :
    ∃ r W', (Builtin.append_ #[40, 40] ty #[v, .slice (some ⟨k, 0, none⟩) 1 1]).run Try.prog W = .ok r W' ∧ Below B w W' ∧ StaysIn B L y W W' ∧ W'.ownsRow B 3 1 r (L.length + 1) (vals L ++ [.int .i64 y]) := by
  have hmx : maxLen = 9223372036854775807 := by decide
  have hsrc : Src Try.prog 1 40 (.slice (some ⟨k, 0, none⟩) 1 1) 1 [.int .i64 y] W := Sits.src (l := [y]) hk
  obtain ⟨r, W', h1, h2, h3, h4, h5, h6⟩ := append_src2 elem_int hv hsrc ty (by omega) (by omega) (by have := hR.size; omega)
  refine ⟨r, W', h1, hR.grown h3 (by have := hR.size; omega) (fun k hk => by have := (hv.lt k hk).1; omega), ⟨fun v0 h => h4 v0 _ _ (Nat.le_refl _) h, fun k' hs => h5 k' _ (fun c e => ?_) hs, h6⟩, h2⟩
  by_cases h0 : L.length = 0
  · rw [hv0 h0] at e
    cases e
  · simp
    omega

theorem boxPlays_room (room : Int) (l : List Int) (A : Option Addr) (cap : Nat) (w : World) (hI : Ints w (.slice A l.length cap) l) (hl : l.length ≤ 100) :
    Calls Try.prog 5 #[.int .i64 room, .bool false, .slice A l.length cap] w fun e w' => e = .returned (.bool true) ∧ Below w.heap.size w w' := by
  obtain ⟨A', cap', e0, h1, h2, h3⟩ := hI.one_
  simp only [Value.slice.injEq, true_and] at e0
  obtain ⟨rfl, rfl⟩ := e0
  obtain ⟨m, hm⟩ : ∃ m, m = min (min room 300).toNat 100000 := ⟨_, rfl⟩
  have d1 : decide (100 < (l.length : Int)) = false := by simp; omega
  have hl100 : (l.length : Int) ≤ 100 := by omega
  have hm300 : (m : Int) ≤ 300 := by omega
  have H3 := Lib.hid h3
  have HM := Lib.hid hm
  clear h3 hm hI hl
  cases t0 : decide (300 < room)
  all_goals
    have HT0 := Lib.hid t0
    go_enter Try.func5, Try.ntmps5
    go_wp2_with fail
    refine (newbox_any _ w m (by have := HM.out; have := HT0.out; simp only [decide_eq_true_eq, decide_eq_false_iff_not] at this; omega)).mono ?_
    rintro e w1 ⟨p, rfl, hp, ⟨c, d, hc, hd, hX⟩, hB⟩
    have HX := Lib.hid hX
    have HB := Lib.hid hB
    have HP := Lib.hid (And.intro hc hd)
    clear hX hB hp hc hd
    go_wp2_with fail
    refine (refroom_any _ w1 m (by have := HM.out; have := HT0.out; simp only [decide_eq_true_eq, decide_eq_false_iff_not] at this; omega)).mono ?_
    rintro e w2 ⟨rfl, rfl⟩
    go_wp2_with fail
    go_loopw [11, 10, 9] (fun i b x wr => ∃ (k : Nat) (cl : Bool) (L : List Int), k ≤ l.length ∧ i = .int .i64 k ∧ b = .bool cl ∧ L.length ≤ k ∧ IRow wr w.heap.size x L ∧ BoxAt wr p c d m L cl ∧ Below w.heap.size w wr) (fun i _ _ _ => l.length - (intOf i).toNat)
    case atStart => exact ⟨0, false, [], by omega, rfl, rfl, by simp, RowAt.nil _ _ _ _, HX.out, HB.out⟩
    case round =>
      obtain ⟨k, cl, L, hk, rfl, rfl, hLk, hI, hX, hB⟩ := hrel
      have HX1 := Lib.hid hX
      have HB1 := Lib.hid hB
      have HI := Lib.hid hI
      have hL100 : (L.length : Int) ≤ 100 := by omega
      have HLK := Lib.hid hLk
      clear hX hB hI HX HB hLk
      by_cases hlt : k < l.length
      · obtain ⟨b, o, rfl, hb, hcb⟩ := H3.out k hlt
        have hcr := (HB1.out.cell (p := ⟨b, o + k, none⟩) hb).trans hcb
        have HBB := Lib.hid (Nat.lt_of_lt_of_le hb HB1.out.size)
        have HBW := Lib.hid hb
        generalize l[k] = y at hcr
        have HCR := Lib.hid hcr
        clear hcb hb
        obtain ⟨Ax, capx, hxv, hx1, hx2, _, _⟩ := HI.out.form
        subst hxv
        by_cases hA : (bits BinOp.and .i64 y 3 == 3) = true ∧ (bits BinOp.and .i64 y 64 != 0) = true
        · obtain ⟨t3, t64⟩ := hA
          cases cl
          · go_wp2_with fail
            refine (boxclose_open p c d m L _ HX1.out).mono ?_
            rintro e w3 ⟨rfl, hX, hT⟩
            have HX2 := Lib.hid hX
            have HI2 := Lib.hid (RowAt.box HI.out HX1.out hT)
            have HB2 := Lib.hid (HB1.out.trans (hT.below HP.out.1 HP.out.2 HB1.out.size))
            clear hX hT
            go_wp2_with fail
            refine (boxlen_any p c d m L true _ HX2.out).mono ?_
            rintro e w4 ⟨rfl, rfl⟩
            go_wp2
            go_roundw
            case rel => exact ⟨k + 1, true, L, by omega, by go_num, rfl, by have := HLK.out; omega, HI2.out, HX2.out, HB2.out⟩
            case measure => simp [intOf]; omega
          · go_wp2_with fail
            refine (boxclose_shut p c d m L _ HX1.out).mono ?_
            rintro e w3 ⟨rfl, rfl⟩
            go_wp2_with fail
            refine (boxlen_any p c d m L true _ HX1.out).mono ?_
            rintro e w4 ⟨rfl, rfl⟩
            go_wp2
            go_roundw
            case rel => exact ⟨k + 1, true, L, by omega, by go_num, rfl, by have := HLK.out; omega, HI.out, HX1.out, HB1.out⟩
            case measure => simp [intOf]; omega
        · have hor : (bits BinOp.and .i64 y 3 == 3) = false ∨ ((bits BinOp.and .i64 y 3 == 3) = true ∧ (bits BinOp.and .i64 y 64 != 0) = false) := by
            cases h1 : (bits BinOp.and .i64 y 3 == 3)
            · exact .inl rfl
            · cases h2 : (bits BinOp.and .i64 y 64 != 0)
              · exact .inr ⟨rfl, rfl⟩
              · exact absurd ⟨h1, h2⟩ hA
          rcases hor with t3 | ⟨t3, t64⟩
          all_goals
            clear hA
            cases t1 : (bits BinOp.and .i64 y 1 == 1)
            · cases cl
              · by_cases hroom : L.length < m
                · have dr : decide (L.length < m) = true := by simp [hroom]
                  go_wp2_with fail
                  refine (boxsend_room p c d m y L _ HX1.out hroom).mono ?_
                  rintro e w3 ⟨rfl, hX, hT⟩
                  have HX2 := Lib.hid hX
                  have HI2 := Lib.hid (RowAt.box HI.out HX1.out hT)
                  have HB2 := Lib.hid (HB1.out.trans (hT.below HP.out.1 HP.out.2 HB1.out.size))
                  have hc3 : w3.cell? ⟨b, o + k, none⟩ = some (.int .i64 y) := by
                    refine Eq.trans ?_ HCR.out
                    have hbl := HBW.out
                    exact World.cell?_of_block (hT.block b (Nat.lt_of_lt_of_le hbl HB1.out.size) (by have := HP.out; show b ≠ c; omega) (by have := HP.out; show b ≠ d; omega))
                  have HB3 := Lib.hid (And.intro (Nat.lt_of_lt_of_le HBB.out hT.size) hc3)
                  have hkl : (k : Int) < (l.length : Int) := by omega
                  have HLE := Lib.hid (show L.length ≤ 1000 by omega)
                  clear hX hT hroom
                  go_wp2_with fail
                  refine wp_region_ex (by kernel_rfl) (fun W => Below w3.heap.size w3 W) (StaysIn w3.heap.size L y)
                    [[(9, none)], [(53, some 0)], [(2, none)], [(11, none)], [(55, some 2), (56, some 3)], [(57, some 4)], [(58, some 5)], [(54, some 1), (59, some 6)], [(60, some 7)]]
                    [none, none, none, none, none, none, none, none, none, some 8, none, none, none, none, none, none, none, none, none, none, none, none, none, none, none, none, none, none, none, none, none, none, none, none, none, none, none, none, none, none, none, none, none, none, none, none, none, none, none, none, none, none, none, some 0, some 1, some 2, some 3, some 4, some 5, some 6, some 7, none, none, none, none, none, none, none, none, none, none, none, none, none, none, none, none, none, none, none, none, none, none, none, none, none, none, none, none, none, none, none, none, none, none, none, none, none, none, none, none, none, none, none, none, none, none, none, none, none, none, none, none, none, none, none, none, none, none, none, none, none, none, none, none, none, none, none, none, none, none, none, none, none, none] (by kernel_rfl) (by kernel_rfl) ((Below.refl _ _).drew) ?_
                  iterate 1
                    refine ex_pure (c := ?_) (fun W _ => staysIn_refl W) ?_ ?_
                    rotate_left
                    · intro a W hR hF
                      simp only [FactsOf, List.nil_append, List.cons_append, List.getD_cons_zero, List.getD_cons_succ, exists_eq_left, and_true, List.getElem?_toArray, List.getElem?_cons_zero, List.getElem?_cons_succ] at hF
                      have hcW := (hR.cell (p := ⟨b, o + k, none⟩) HB3.out.1).trans HB3.out.2
                      refine ⟨?_, ?_⟩
                      · simp [Region.wanted, yielded, hF]
                      · go_simp
                        with_reducible rfl
                  refine ex_val (fun v W => W.ownsRow w3.heap.size 3 1 v L.length (vals L) ∧ (L.length = 0 → v = .slice none 0 0)) (fun v W W' _ hS h => ⟨hS.1 v h.1, h.2⟩) (fun a W hR hF => ?_) ?_
                  · simp only [FactsOf, List.nil_append, List.cons_append, List.getD_cons_zero, List.getD_cons_succ, exists_eq_left, and_true, List.getElem?_toArray, List.getElem?_cons_zero, List.getElem?_cons_succ] at hF
                    obtain ⟨r, W', e1, e2, e3, e4⟩ := copy_run (y := y) (IRow.ints (RowAt.below HI2.out hR)) hR rfl HLE.out 40
                    exact ⟨by simp [Region.wanted, yielded], r, W', exec_append (.const (.slice none 0 0)) (.tmp 53) 40 40 rfl _ _ r rfl (by simp [Act.eval, hF]) e1, e2, e3, e4⟩
                  iterate 4
                    refine ex_pure (c := ?_) (fun W _ => staysIn_refl W) ?_ ?_
                    rotate_left
                    · intro a W hR hF
                      simp only [FactsOf, List.nil_append, List.cons_append, List.getD_cons_zero, List.getD_cons_succ, exists_eq_left, and_true, List.getElem?_toArray, List.getElem?_cons_zero, List.getElem?_cons_succ] at hF
                      have hcW := (hR.cell (p := ⟨b, o + k, none⟩) HB3.out.1).trans HB3.out.2
                      refine ⟨?_, ?_⟩
                      · simp [Region.wanted, yielded, hF]
                      · go_simp
                        with_reducible rfl
                  refine ex_make (k := 1) (cs := #[.int .i64 y]) (T := 3) (fun W W' g _ hS hs => hS.2.1 g hs) (fun W b hR => ⟨hR.alloc hR.size b, staysIn_below ((Below.refl _ _).alloc (Nat.le_refl _) b)⟩) ?_ ?_
                  · intro a W hR hF
                    simp only [FactsOf, List.nil_append, List.cons_append, List.getD_cons_zero, List.getD_cons_succ, exists_eq_left, and_true, List.getElem?_toArray, List.getElem?_cons_zero, List.getElem?_cons_succ] at hF
                    refine ⟨?_, ?_⟩
                    · simp [Region.wanted, yielded, hF]
                    · go_simp
                  refine ex_val (fun v W => W.ownsRow w3.heap.size 3 1 v (L.length + 1) (vals L ++ [.int .i64 y])) (fun v W W' _ hS h => hS.2.2 v h) (fun a W hR hF => ?_) ?_
                  · simp only [FactsOf, List.nil_append, List.cons_append, List.getD_cons_zero, List.getD_cons_succ, exists_eq_left, and_true, List.getElem?_toArray, List.getElem?_cons_zero, List.getElem?_cons_succ] at hF
                    obtain ⟨⟨v, ⟨hv1, hv2⟩, h54⟩, _, ⟨g, rfl, hs⟩, h59⟩ := hF
                    obtain ⟨r, W', e1, e2, e3, e4⟩ := add_run hv1 hv2 hs hR rfl HLE.out 40
                    exact ⟨by simp [Region.wanted, yielded], r, W', exec_append (.tmp 54) (.tmp 59) 40 40 rfl _ _ r (by simp [Act.eval, h54]) (by simp [Act.eval, h59]) e1, e2, e3, e4⟩
                  refine ex_val (fun v W => W.ownsRow w3.heap.size 3 1 v (L.length + 1) (vals L ++ [.int .i64 y])) (fun v W W' _ hS h => hS.2.2 v h) (fun a W hR hF => ?_) ?_
                  · simp only [FactsOf, List.nil_append, List.cons_append, List.getD_cons_zero, List.getD_cons_succ, exists_eq_left, and_true, List.getElem?_toArray, List.getElem?_cons_zero, List.getElem?_cons_succ] at hF
                    obtain ⟨v, hv, h60⟩ := hF
                    exact ⟨by simp [Region.wanted, yielded], v, W, by simp [execOp, Act.eval, h60], hR, staysIn_refl W, hv⟩
                  show ∀ W, _ → _
                  intro W hb
                  simp only [FinOf, List.nil_append, List.cons_append, List.getD_cons_zero, List.getD_cons_succ, forall_eq, forall_exists_index, and_imp, Nat.reduceAdd, Array.getD_eq_getD_getElem?, List.getElem?_toArray, List.getElem?_cons_zero, List.getElem?_cons_succ, Option.getD_some]
                  intro r hr v1 _ _ v59 g59 _ _ r7 _
                  have hI3 : IRow W w.heap.size r (L ++ [y]) := by
                    have := (RowAt.ofOwn hr).mono HB2.out.size
                    rw [show vals L ++ [Value.int .i64 y] = vals (L ++ [y]) by simp [vals], show L.length + 1 = (L ++ [y]).length by simp] at this
                    exact this
                  obtain ⟨A3, cap3, hr3, hr4, hr5, _, _⟩ := hI3.form
                  have hl3 : (L ++ [y]).length = L.length + 1 := by simp
                  rw [hl3] at hr3 hr4
                  subst hr3
                  have HI3 := Lib.hid hI3
                  have HX3 := Lib.hid (HX2.out.below hb)
                  have HB4 := Lib.hid (HB2.out.trans (hb.mono HB2.out.size))
                  clear hr hI3 hb
                  go_wp2_with fail
                  refine (boxlen_any p c d m (L ++ [y]) false _ HX3.out).mono ?_
                  rintro e w4 ⟨rfl, rfl⟩
                  rw [hl3]
                  go_wp2
                  go_roundw
                  case rel => exact ⟨k + 1, false, L ++ [y], by omega, by go_num, rfl, by have := HLK.out; omega, HI3.out, HX3.out, HB4.out⟩
                  case measure => simp [intOf]; omega
                · have dr : decide (L.length < m) = false := by simp; omega
                  go_wp2_with fail
                  refine (boxsend_full p c d m y L _ HX1.out (by omega)).mono ?_
                  rintro e w3 ⟨rfl, rfl⟩
                  go_wp2_with fail
                  refine (boxlen_any p c d m L false _ HX1.out).mono ?_
                  rintro e w4 ⟨rfl, rfl⟩
                  go_wp2
                  go_roundw
                  case rel => exact ⟨k + 1, false, L, by omega, by go_num, rfl, by have := HLK.out; omega, HI.out, HX1.out, HB1.out⟩
                  case measure => simp [intOf]; omega
              · go_wp2_with fail
                refine (boxsend_closed p c d m y L _ HX1.out).mono ?_
                rintro e w3 ⟨rfl, rfl⟩
                go_wp2_with fail
                refine (boxlen_any p c d m L true _ HX1.out).mono ?_
                rintro e w4 ⟨rfl, rfl⟩
                go_wp2
                go_roundw
                case rel => exact ⟨k + 1, true, L, by omega, by go_num, rfl, by have := HLK.out; omega, HI.out, HX1.out, HB1.out⟩
                case measure => simp [intOf]; omega
            · cases L with
              | nil =>
                go_wp2_with fail
                refine (boxtake_empty p c d m cl _ HX1.out).mono ?_
                rintro e w3 ⟨rfl, rfl⟩
                go_wp2_with fail
                refine (boxlen_any p c d m [] cl _ HX1.out).mono ?_
                rintro e w4 ⟨rfl, rfl⟩
                go_wp2
                go_roundw
                case rel => exact ⟨k + 1, cl, [], by omega, by go_num, rfl, by simp, HI.out, HX1.out, HB1.out⟩
                case measure => simp [intOf]; omega
              | cons x L =>
                obtain ⟨g, o2, cap2, hv, hc1, hc2, hcx, hcut⟩ := IRow.cut HI.out
                simp only [List.length_cons, Value.slice.injEq, true_and] at hv
                obtain ⟨rfl, rfl⟩ := hv
                have hlc : (x :: L).length = L.length + 1 := by simp
                rw [hlc]
                rw [hlc] at hL100 hx1
                clear hcx hcut
                go_wp2_with fail
                refine (boxtake_cons p c d m x L cl _ HX1.out).mono ?_
                rintro e w3 ⟨rfl, hX, hT⟩
                have hI2 := RowAt.box HI.out HX1.out hT
                obtain ⟨g', o2', cap2', hv, _, _, hcx, hcut⟩ := IRow.cut hI2
                simp only [List.length_cons, Value.slice.injEq, true_and, Option.some.injEq, Addr.mk.injEq, and_true] at hv
                obtain ⟨⟨rfl, rfl⟩, rfl⟩ := hv
                have HX2 := Lib.hid hX
                have HI2 := Lib.hid hcut
                have HB2 := Lib.hid (HB1.out.trans (hT.below HP.out.1 HP.out.2 HB1.out.size))
                clear hX hT hcut
                by_cases hcz : capx = 1
                · subst hcz
                  have hl0 : L = [] := List.eq_nil_of_length_eq_zero (by omega)
                  subst hl0
                  have HI3 := Lib.hid (IRow.cut1 hI2)
                  clear hI2
                  go_wp2_with fail
                  refine (boxlen_any p c d m [] cl _ HX2.out).mono ?_
                  rintro e w4 ⟨rfl, rfl⟩
                  go_wp2
                  go_roundw
                  case rel => exact ⟨k + 1, cl, [], by omega, by go_num, rfl, by simp, HI3.out, HX2.out, HB2.out⟩
                  case measure => simp [intOf]; omega
                · clear hI2
                  have hcz1 : ¬ ((capx : Int) - 1 = 0) := by omega
                  have hcz2 : ¬ (capx - 1 = 0) := by omega
                  go_wp2_with fail
                  refine (boxlen_any p c d m L cl _ HX2.out).mono ?_
                  rintro e w4 ⟨rfl, rfl⟩
                  go_wp2
                  go_roundw
                  case rel => exact ⟨k + 1, cl, L, by omega, by go_num, rfl, by have := HLK.out; rw [hlc] at this; omega, HI2.out, HX2.out, HB2.out⟩
                  case measure => simp [intOf]; omega
      · go_wp2_with fail
        refine (boxed_any _).mono ?_
        rintro e w3 ⟨rfl, hb⟩
        have HB3 := Lib.hid (HB1.out.trans (hb.mono HB1.out.size))
        clear hb
        go_wp2
        go_ret
        exact ⟨rfl, HB3.out⟩

theorem boxPlays_walk (room : Int) (_wr : (Lit.int .i64 room).wf = true) (zero : Bool) (v : Value) (l : List Int) (w : World) (hv : (∀ x ∈ l, i64ok x) ∧ Ints w v l) :
    Calls Try.prog 5 #[.int .i64 room, .bool zero, v] w fun e w' => e = .returned (.bool true) ∧ Below w.heap.size w w' := by
  clear _wr
  obtain ⟨A, cap, rfl, h1, h2, h3⟩ := hv.2.one_
  have hI := hv.2
  by_cases hl : l.length ≤ 100
  · cases zero
    · exact boxPlays_room room l A cap w hI hl
    · exact boxPlays_zero room l A cap w hI hl
  · have d1 : decide (100 < (l.length : Int)) = true := by simp; omega
    have hlen : (l.length : Int) ≤ 9223372036854775807 := by omega
    clear h3 hI hv hl
    go_enter Try.func5, Try.ntmps5
    go_wp2_with (go_at_call 26; refine (boxed_any _).mono ?_; rintro e w' ⟨rfl, hb⟩)
    go_ret
    exact ⟨rfl, hb⟩

set_option maxRecDepth 100000 in
theorem boxPlays_lifted (os : Os) (started : os.Started) (H : Type) (enc : TypeId × Value → H) :
    ReturnsInHanded {} Try.checked os 5 .any (Rows.boxPlaysSpec.pre6 enc Try.prog Try.f5 Rows.boxPlaysRow.domain false) (Rows.boxPlaysSpec.post enc Try.prog Try.f5 false true false false) := by
  refine returnsInHanded_of_change (C := Try.checked) own started (by kernel_rfl) Try.func5
    (ChangeSpec.witness6 (enc := enc) (C := Try.checked) false ⟨#[], #[.int .i64 0, .bool false, .slice none 0 0], []⟩ 8 (by kernel_rfl) (by kernel_rfl) (by kernel_rfl) (by kernel_rfl)) ?_
  intro W base args ds gs before hval0 hW _ _
  have hval : ∀ (j : Nat) t v, Try.f5.params[j]? = some t → args[j]? = some v → Value.okWide Try.prog W .any base t v := hval0
  have hW' := hW
  obtain ⟨p, q, hA0, hV, rfl, hfz, hnd⟩ := hW
  have hA : DataW.TrodAll enc Try.prog W 0 (fun _ => true) true Try.f5.params.toList args.toList ds p := hA0
  rw [Try.params5] at hA hval
  obtain ⟨v0, vs0, d0, ds0, p0, q0, hargs, rfl, rfl, h0, r0⟩ := trodAll_cons hA
  obtain ⟨v1, vs1, d1, ds1, p1, q1, rfl, rfl, rfl, h1, r1⟩ := trodAll_cons r0
  obtain ⟨v2, vs2, d2, ds2, p2, q2, rfl, rfl, rfl, h2, r2⟩ := trodAll_cons r1
  obtain ⟨rfl, rfl, rfl⟩ := trodAll_nil r2
  obtain rfl : args = #[v0, v1, v2] := by cases args; simp_all
  obtain ⟨rfl, rfl⟩ := trodVars_none hV
  have k0 := h0
  have lt0 : ∀ x ∈ p0, x.block < W.heap.size := by obtain ⟨m, hm⟩ := k0; exact DataW.trod_lt m _ _ _ hm
  have k1 := h1
  have lt1 : ∀ x ∈ p1, x.block < W.heap.size := by obtain ⟨m, hm⟩ := k1; exact DataW.trod_lt m _ _ _ hm
  have k2 := h2
  have lt2 : ∀ x ∈ p2, x.block < W.heap.size := by obtain ⟨m, hm⟩ := k2; exact DataW.trod_lt m _ _ _ hm
  obtain ⟨a0, rfl, rfl, rfl, w0⟩ := open_int Try.underlying3 (hval 0 3 v0 rfl rfl) h0
  obtain ⟨a1, rfl, rfl, rfl⟩ := open_bool Try.underlying4 (hval 1 4 v1 rfl rfl) h1
  obtain ⟨a2, w2⟩ := ints_open (hval 2 40 v2 rfl rfl) k2
  clear hA0 hval0
  refine (boxPlays_walk a0 w0 a1 v2 a2 W w2).mono fun e W' ⟨he, bel⟩ => ?_
  subst he
  exact ⟨_, rfl, _, _, _, [], _, [], hW', trodAll_mk1 (shut_bool Try.underlying4 _), (trodAll_cons_mk (Below.trod laidOut (by kernel_rfl) (of_decide_eq_true (by kernel_rfl)) k0 bel lt0) (trodAll_cons_mk (Below.trod laidOut (by kernel_rfl) (of_decide_eq_true (by kernel_rfl)) k1 bel lt1) (trodAll_cons_mk (Below.trod laidOut (by kernel_rfl) (of_decide_eq_true (by kernel_rfl)) k2 bel lt2) trodAll_mk0))), rfl, bel.frame _, fun h => by cases h⟩

theorem boxPlays_said : Rows.BoxPlaysSaid :=
  OpenClaim.holds_of_wide 5 Try.f5 rfl rfl rfl rfl rfl rfl rfl ⟨rfl, rfl, rfl, rfl, rfl⟩ rfl rfl rfl rfl rfl (by kernel_rfl) Try.func5 (by kernel_rfl)
    (of_decide_eq_true (by kernel_rfl)) (by unfold Func.isWrapper; first | (rw [if_pos (by decide +kernel)]; kernel_rfl) | (rw [if_neg (by decide +kernel)]; exact ⟨rfl, rfl⟩))
    (fun os started H enc _ => boxPlays_lifted os started H enc)
#print axioms boxPlays_said
end Go.Proofs.Ytffgdmdliddlpaa
