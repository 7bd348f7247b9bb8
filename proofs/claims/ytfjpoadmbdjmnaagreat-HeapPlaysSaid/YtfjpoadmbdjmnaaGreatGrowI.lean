/- commonsbook's growInts: each kept list grows into memory of its own. -/
import Derived.Test.YtfjpoadmbdjmnaaGreatPutI
namespace Go.Proofs.YtfjpoadmbdjmnaaGreat
open Go Go.RowKit
set_option maxRecDepth 100000
set_option maxHeartbeats 1000000
set_option linter.unusedSimpArgs false

theorem info_ints : (Tryz.prog.info? 63).map (fun i => (i.zero, i.size, i.bytes)) = some (some (.slice none 0 0), 1, 24) := by kernel_rfl
theorem elem_ints : Elem Tryz.prog 35 63 (.slice none 0 0) 1 24 := ⟨Tryz.underlying35, info_ints, rfl, by omega⟩
theorem vals_marks (i n : Nat) (j : Nat) (u : Value) (w : World) (g : Nat) (h : Sits w g 3 (vals (marksI i 0 n)).toArray) (hu : (vals (marksI i 0 n))[j]? = some u) : w.cell? ⟨g, 0 + j, none⟩ = some u := by
  rw [Nat.zero_add, h.cell j]
  simpa using hu
theorem row_marks {w : World} {base : Nat} {y : Value} {i n : Nat} (h : RowAt w base 3 1 y n (vals (marksI i 0 n))) : Ints w y (marksI i 0 n) := by
  have h2 : IRow w base y (marksI i 0 n) := by
    show RowAt _ _ _ _ _ (marksI i 0 n).length _
    rw [marksI_length]
    exact h
  exact h2.ints
/-- One append of a list's next marks. -/
theorem grow_key {B : Nat} {w1 wq : World} {k q m : Nat} {lv : Value} (hB : Below B w1 wq) (hBs : B = w1.heap.size) (hq : q ≤ 200000) (hm0 : 0 < m) (hm : m ≤ 100)
    (hL : (∃ g, lv = .slice (some ⟨g, 0, none⟩) q q ∧ Sits w1 g 3 (vals (marksI k 0 q)).toArray) ∨ RowAt wq B 3 1 lv q (vals (marksI k 0 q))) (w3 : World) (u : Value) (hB3 : Below wq.heap.size wq w3) (hu : IRow w3 wq.heap.size u (marksI k q m)) (ty : TypeId) :
    ∃ v' w4, (Builtin.append_ #[63, 63] ty #[lv, u]).run Tryz.prog w3 = .ok v' w4 ∧ RowAt w4 B 3 1 v' (q + m) (vals (marksI k 0 (q + m))) ∧ Below B w1 w4 := by
  have hmx : maxLen = 9223372036854775807 := by decide
  have hs3 : wq.heap.size ≤ w3.heap.size := hB3.size
  have hs1 : B ≤ wq.heap.size := by have := hB.size; omega
  have hB13 := hB.trans (hB3.mono hs1)
  have hsrc := hu.src
  rw [marksI_length] at hsrc
  have hv : vals (marksI k 0 (q + m)) = vals (marksI k 0 q) ++ vals (marksI k q m) := by
    have := marksI_append k 0 q m
    rw [Nat.zero_add] at this
    rw [← this, vals_append]
  rcases hL with ⟨g, rfl, hsg⟩ | hL
  · have hsg3 : Sits w3 g 3 (vals (marksI k 0 q)).toArray := hsg.below hB13 (by rw [hBs]; exact hsg.lt)
    obtain ⟨v', w4, h1, h2, h3, _⟩ := appendFull_src (base := B) (n := q) elem_int (xs := vals (marksI k 0 q)) (by rw [vals_length, marksI_length]; omega) (fun j u hu => vals_marks k q j u w3 g hsg3 hu) hsrc hm0 ty (by omega) (by omega) (by omega)
    exact ⟨v', w4, h1, by rw [hv]; exact h2, hB13.trans (h3.mono (by omega))⟩
  · have hL3 := RowAt.below hL hB3
    obtain ⟨v', w4, h1, h2, h3, _⟩ := appendAt_src elem_int hL3 hsrc ty (by omega) (by omega) (by omega)
    exact ⟨v', w4, h1, by rw [hv]; exact h2, hB13.grown h3 (by omega) (fun k hk => (hL3.lt k hk).1)⟩
theorem growInts_any (p : Nat) (ks : List (Option Nat × Nat)) (A : Option Addr) (cap : Nat) (w : World) (h : Lists w p 2 ks A cap) (hlen : ks.length ≤ 250)
    (hmk : ∀ (i : Nat) x g, ks[i]? = some x → x.1 = some g → Sits w g 3 (vals (marksI i 0 x.2)).toArray) :
    Calls Tryz.prog 58 #[.pointer (some ⟨p, 0, none⟩)] w fun e w' => ∃ u us, e = .returned u ∧ Vals w' u us ∧ us.length = ks.length ∧ (∀ (i : Nat) (x : Option Nat × Nat) y, ks[i]? = some x → us[i]? = some y → Ints w' y (marksI i 0 (x.2 + 72))) ∧ Below w.heap.size w w' := by
  obtain ⟨tb, bc, hbk, htb, hbc⟩ := h.cell
  have HMX := Lib.hid (show maxLen = 9223372036854775807 by decide)
  have HH := Lib.hid h
  have HMK := Lib.hid hmk
  have c2 : w.cell? ⟨p, 2, none⟩ = some (.slice A ks.length cap) := by rw [hbk.cell 2]; exact hbc
  have hplt := hbk.lt
  have HC2 := Lib.hid (And.intro hplt c2)
  have hle := h.le
  have hcp := h.capOk
  have hl250 : (ks.length : Int) ≤ 250 := by omega
  clear h hbk htb hbc hmk
  go_enter Tryz.func58, Tryz.ntmps58
  go_wp2
  go_loopw [4, 3] (fun i ov wr => ∃ (k : Nat) (us : List Value), k ≤ ks.length ∧ i = .int .i64 k ∧ us.length = k ∧ RowAt wr w.heap.size 63 1 ov k us ∧ (∀ u ∈ us, u.oneCell' = true) ∧ (∀ (i : Nat) (x : Option Nat × Nat) y, ks[i]? = some x → us[i]? = some y → RowAt wr w.heap.size 3 1 y (x.2 + 72) (vals (marksI i 0 (x.2 + 72)))) ∧ Below w.heap.size w wr) (fun i _ _ => ks.length - (intOf i).toNat)
  case atStart => exact ⟨0, [], by omega, rfl, rfl, RowAt.nil _ _ _ _, by simp, fun i x y _ hy => by simp at hy, Below.refl _ _⟩
  case round =>
    obtain ⟨k, us, hk, rfl, hus, hO, hone, hI, hB⟩ := hrel
    generalize wr = w1 at hO hI hB ⊢
    have c2 := (hB.cell (p := ⟨p, 2, none⟩) HC2.out.1).trans HC2.out.2
    by_cases hlt : k < ks.length
    · obtain ⟨b, o, rc, rfl, hb, hrc⟩ := HH.out.row k hlt
      have cr : w1.cell? ⟨b, o + k, none⟩ = some (keptV ks[k]) := (hB.cell (p := ⟨b, o + k, none⟩) hb.lt).trans (by rw [hb.cell]; exact hrc)
      have hkx := List.getElem?_eq_getElem hlt
      obtain ⟨x, hx⟩ : ∃ x, x = ks[k] := ⟨_, rfl⟩
      rw [← hx] at cr hkx
      obtain ⟨og, n⟩ := x
      obtain ⟨AG, hAG⟩ : ∃ AG : Option Addr, AG = og.map fun g => ⟨g, 0, none⟩ := ⟨_, rfl⟩
      have hv : keptV (og, n) = .slice AG n n := by rw [hAG]; rfl
      rw [hv] at cr
      have hn := (HH.out.small k _ hkx).1
      have HOG := Lib.hid (And.intro hAG (HH.out.small k _ hkx).2)
      have hn2 : (n : Int) ≤ 100000 := by simp only at hn; omega
      have hsg : ∀ g, og = some g → Sits w1 g 3 (vals (marksI k 0 n)).toArray := fun g e => (HMK.out k _ g hkx e).below hB (HMK.out k _ g hkx e).lt
      have HS := Lib.hid (And.intro hO (And.intro hone (And.intro hI (And.intro hB (And.intro hus (And.intro hkx hsg))))))
      clear hb hrc hx hn hO hone hI hB hus hkx hsg hAG hv
      go_wp2_with fail
      go_loopw [6, 5] (fun i lw wq => ∃ (c : Nat) (lv : Value), c ≤ 12 ∧ i = .int .i64 c ∧ lw = lv ∧ Below w1.heap.size w1 wq ∧ ((∃ g, c = 0 ∧ og = some g ∧ lv = .slice (some ⟨g, 0, none⟩) n n) ∨ RowAt wq w1.heap.size 3 1 lv (n + c) (vals (marksI k 0 (n + c))))) (fun i _ _ => 12 - (intOf i).toNat)
      case atStart =>
        refine ⟨0, _, by omega, rfl, rfl, Below.refl _ _, ?_⟩
        cases og with
        | none =>
          have h0 : n = 0 := HOG.out.2 rfl
          subst h0
          rw [HOG.out.1]
          exact .inr (RowAt.nil _ _ _ _)
        | some g => exact .inl ⟨g, rfl, rfl, by rw [HOG.out.1]; rfl⟩
      case round =>
        obtain ⟨c, lv, hc, rfl, hlv, hB2, hL⟩ := hrel
        obtain ⟨q, hq⟩ : ∃ q, q = n + c := ⟨_, rfl⟩
        have hq2 : (q : Int) ≤ 100012 := by omega
        have hform : ∃ AL cl, lv = .slice AL q cl := by
          rcases hL with ⟨g, rfl, _, rfl⟩ | hL
          · exact ⟨_, n, by rw [hq, Nat.add_zero]⟩
          · obtain ⟨A', c', e, _⟩ := hL.form
            exact ⟨A', c', by rw [hq]; exact e⟩
        obtain ⟨AL, cl, rfl⟩ := hform
        subst hlv
        have hL2 : (∃ g, (Value.slice AL q cl) = .slice (some ⟨g, 0, none⟩) q q ∧ Sits w1 g 3 (vals (marksI k 0 q)).toArray) ∨ RowAt wr w1.heap.size 3 1 (.slice AL q cl) q (vals (marksI k 0 q)) := by
          rcases hL with ⟨g, rfl, hg, e⟩ | hL
          · left
            rw [Nat.add_zero] at hq
            subst hq
            exact ⟨g, e, HS.out.2.2.2.2.2.2 g hg⟩
          · right
            rw [hq] at *
            exact hL
        have HK := Lib.hid (fun (m : Nat) (hm0 : 0 < m) (hm : m ≤ 100) => grow_key hB2 rfl (by omega) hm0 hm hL2)
        have HB2 := Lib.hid hB2
        have HQ := Lib.hid hq
        clear hL hL2 hB2 hq
        by_cases hlt2 : c < 12
        · have dlt : (c : Int) < 12 := by omega
          go_wp2_with fail
          refine (markInts_any k q 1 wr (by omega) (by omega) (by omega)).mono ?_
          rintro e w3 ⟨u, rfl, hu, hb3⟩
          obtain ⟨v4, w4, hr4, hX4, hB4⟩ := HK.out 1 (by omega) (by omega) w3 u hb3 hu 63
          have HR := Lib.hid hr4
          have HX := Lib.hid (And.intro hX4 hB4)
          clear hr4 hX4 hB4 hu hb3 HK
          go_wp2_with (at_builtin; refine wpList_append_eq rfl (.tmp 27) (.tmp 31) 63 63 rfl _ _ _ rfl rfl HR.out ?_)
          go_roundw
          case rel => exact ⟨c + 1, _, by omega, by go_num, rfl, HX.out.2, .inr (by have := HX.out.1; rw [HQ.out, Nat.add_assoc] at this; exact this)⟩
          case measure => simp [intOf]; omega
        · have dlt : ¬ (c : Int) < 12 := by omega
          go_wp2_with fail
          refine (markInts_any k q 60 wr (by omega) (by omega) (by omega)).mono ?_
          rintro e w3 ⟨u, rfl, hu, hb3⟩
          obtain ⟨v4, w4, hr4, hX4, hB4⟩ := HK.out 60 (by omega) (by omega) w3 u hb3 hu 63
          have e72 : q + 60 = n + 72 := by have := HQ.out; omega
          rw [e72] at hX4
          obtain ⟨A4, c4, rfl, _⟩ := hX4.form
          have hBw := HS.out.2.2.2.1.trans (hB4.mono HS.out.2.2.2.1.size)
          have hO := RowAt.below (RowAt.below HS.out.1 hB4) ((Below.refl _ _).alloc (Nat.le_refl _) (.cells #[.slice A4 (n + 72) c4] 63))
          have hsrc : Src Tryz.prog 1 35 (.slice (some ⟨w4.heap.size, 0, none⟩) 1 1) 1 [Value.slice A4 (n + 72) c4] (w4.alloc (.cells #[.slice A4 (n + 72) c4] 63)) :=
            src_slice Tryz.underlying35 rfl (fun _ => ⟨w4.heap.size, 0, rfl, fun j u hu => by
              rw [Nat.zero_add, (Sits.fresh w4 63 #[.slice A4 (n + 72) c4]).cell j]
              simpa using hu⟩) (by simp [Value.oneCell'])
          obtain ⟨v7, w7, hr7, hX7, gr7, _⟩ := appendAt_src elem_ints hO hsrc 35 (by rw [HMX.out]; omega) (by omega) (by have := hBw.size; simp; omega)
          have hBa := hBw.alloc hBw.size (.cells #[.slice A4 (n + 72) c4] 63)
          have hB7 := hBa.grown gr7 (by have := hBw.size; simp; omega) (fun k hk => (hO.lt k hk).1)
          have hkeep : ∀ (y : Value) (m : Nat) (xs : List Value), RowAt w4 w.heap.size 3 1 y m xs → RowAt w7 w.heap.size 3 1 y m xs := fun y m xs hy => by
            have hy2 := RowAt.below hy ((Below.refl _ _).alloc (Nat.le_refl _) (.cells #[.slice A4 (n + 72) c4] 63))
            refine hy2.keep fun q hq => gr7.block q (hy2.lt q hq).2 (fun e => ?_)
            obtain ⟨c1, s1⟩ := hy2.sits q hq
            obtain ⟨c2, s2⟩ := hO.sits q e.symm
            exact (s1.apart s2 (by decide)) rfl
          have hnew := hkeep _ _ _ (RowAt.mono hX4 HS.out.2.2.2.1.size)
          have hall : ∀ (i : Nat) (x : Option Nat × Nat) y, ks[i]? = some x → (us ++ [Value.slice A4 (n + 72) c4])[i]? = some y → RowAt w7 w.heap.size 3 1 y (x.2 + 72) (vals (marksI i 0 (x.2 + 72))) := fun i x y hx hy => by
            by_cases hi : i < us.length
            · rw [List.getElem?_append_left hi] at hy
              exact hkeep _ _ _ (RowAt.below (HS.out.2.2.1 i x y hx hy) hB4)
            · have hik : i = k := by
                have := (List.getElem?_eq_some_iff.1 hy).1
                simp only [List.length_append, List.length_singleton] at this
                have := HS.out.2.2.2.2.1
                omega
              subst hik
              rw [List.getElem?_append_right (by omega), HS.out.2.2.2.2.1, Nat.sub_self] at hy
              simp only [List.getElem?_cons_zero, Option.some.injEq] at hy
              subst hy
              have := hx.symm.trans HS.out.2.2.2.2.2.1
              simp only [Option.some.injEq] at this
              subst this
              exact hnew
          have HR4 := Lib.hid hr4
          have HR7 := Lib.hid hr7
          have HF := Lib.hid (And.intro (show (us ++ [Value.slice A4 (n + 72) c4]).length = k + 1 by rw [List.length_append, HS.out.2.2.2.2.1]; rfl) (And.intro hX7 (And.intro (show ∀ u ∈ us ++ [Value.slice A4 (n + 72) c4], u.oneCell' = true from fun u hu => by
            rcases List.mem_append.1 hu with h | h
            · exact HS.out.2.1 u h
            · simp only [List.mem_singleton] at h
              subst h
              rfl) (And.intro hall hB7))))
          clear hr4 hr7 hX4 hB4 hBw hO hsrc hX7 gr7 hBa hB7 hkeep hnew hall hu hb3 HK
          go_wp2_with (first
            | (at_builtin; refine wpList_append_eq rfl (.tmp 34) (.tmp 38) 63 63 rfl _ _ _ rfl rfl HR4.out ?_)
            | (at_builtin; refine wpList_append_eq rfl (.tmp 33) (.tmp 40) 35 35 rfl _ _ _ rfl rfl HR7.out ?_))
          go_roundw
          case rel => exact ⟨k + 1, _, by omega, by go_num, HF.out.1, HF.out.2.1, HF.out.2.2.1, HF.out.2.2.2.1, HF.out.2.2.2.2⟩
          case measure => simp [intOf]; omega
    · have hkl : k = ks.length := by omega
      subst hkl
      have HS := Lib.hid (And.intro (RowAt.slice (f := fun v => v) (by simpa using hO)) (And.intro (show ∀ (i : Nat) (x : Option Nat × Nat) y, ks[i]? = some x → us[i]? = some y → Ints w1 y (marksI i 0 (x.2 + 72)) from fun i x y hx hy => row_marks (hI i x y hx hy)) hB))
      clear hO hone hI hB
      go_wp2
      go_ret
      exact ⟨_, us, rfl, HS.out.1, hus, HS.out.2.1, HS.out.2.2⟩
end Go.Proofs.YtfjpoadmbdjmnaaGreat
