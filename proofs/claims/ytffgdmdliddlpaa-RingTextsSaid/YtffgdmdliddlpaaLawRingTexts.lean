/- The statement RingTexts of package ring: rings of texts keep them, in order, round and round; it holds of every int, every list of texts and every list of bools. -/
import Derived.Test.YtffgdmdliddlpaaAlive
import Derived.Test.YtffgdmdliddlpaaRingES
import Derived.Test.YtffgdmdliddlpaaTextRow
import Derived.Test.YtffgdmdliddlpaaSameT
import Derived.Test.YtffgdmdliddlpaaInts
import Derived.Test.YtffgdmdliddlpaaBase
import Derived.OpenShut
import Derived.ChangeOld
namespace Go.Proofs.Ytffgdmdliddlpaa
open Go Go.RowKit Go.ChangeShapes Go.WideShapes Go.ChangeAt
set_option maxRecDepth 100000
set_option maxHeartbeats 4000000
set_option linter.unusedSimpArgs false

abbrev Bools := SliceAt 1 (fun b : Bool => [Value.bool b])
theorem bools_open {H : Type} {enc : TypeId × Value → H} {w : World} {base : Nat} {r : Reach} {v : Value} {d : DataW H} {p : List MemPlace} (hv : Value.okWide Try.prog w r base 23 v)
    (h : DataW.Trod enc Try.prog w 0 (fun _ => true) true 23 v d p) : ∃ l : List Bool, (∀ x ∈ l, True) ∧ Bools w v l :=
  slice_open Try.underlying23 (by kernel_rfl) (by omega) (fun cs n sp held x ht hl => by
    obtain ⟨s, e, _⟩ := DataW.trod_bool Try.underlying4 ht
    exact ⟨s, trivial, e⟩) hv h

theorem ringTexts_walk (room : Int) (_wr : (Lit.int .i64 room).wf = true) (v : Value) (l : List (List UInt8)) (u : Value) (ps : List Bool) (w : World)
    (hv : (∀ s ∈ l, (s.length : Int) ≤ 9223372036854775807) ∧ Texts w v l) (hu : (∀ x ∈ ps, True) ∧ Bools w u ps) :
    Calls Try.prog 3 #[.int .i64 room, v, u] w fun e w' => e = .returned (.bool true) ∧ Below w.heap.size w w' := by
  clear _wr
  obtain ⟨A, cap, rfl, h1, h2, h3⟩ := hv.2.at_
  obtain ⟨Ab, capb, rfl, hb1, hb2, hb3⟩ := hu.2.one_
  clear hv hu
  have hlen : (l.length : Int) ≤ 9223372036854775807 := by omega
  have hlenb : (ps.length : Int) ≤ 9223372036854775807 := by omega
  have tail : ∀ b1 b2 b3, decide (100 < (l.length : Int)) = b1 → decide (200 < (ps.length : Int)) = b2 → decide (1000 < room) = b3 → (b1 || b2 || b3) = true →
      Calls Try.prog 3 #[.int .i64 room, .slice A l.length cap, .slice Ab ps.length capb] w fun e w' => e = .returned (.bool true) ∧ Below w.heap.size w w' := by
    intro b1 b2 b3 d1 d2 d3 hb
    clear h3 hb3
    cases b1 <;> cases b2 <;> cases b3 <;> first
      | (exact absurd hb (by decide))
      | (clear hb
         go_enter Try.func3, Try.ntmps3
         go_wp2_with (go_at_call 10; refine (alive_any _).mono ?_; rintro e w' ⟨rfl, hb⟩)
         go_ret
         exact ⟨rfl, hb⟩)
  by_cases hg : l.length ≤ 100 ∧ ps.length ≤ 200 ∧ room ≤ 1000
  · clear tail
    obtain ⟨g1, g2, g3⟩ := hg
    have d1 : decide (100 < (l.length : Int)) = false := by simp; omega
    have d2 : decide (200 < (ps.length : Int)) = false := by simp; omega
    have d3 : decide (1000 < room) = false := by simp; omega
    have hl100 : (l.length : Int) ≤ 100 := by omega
    have hp200 : (ps.length : Int) ≤ 200 := by omega
    obtain ⟨m, hm⟩ : ∃ m, m = min room.toNat 100000 := ⟨_, rfl⟩
    have hm1000 : m ≤ 1000 := by omega
    have HM := Lib.hid hm
    have HMX := Lib.hid (show maxLen = 9223372036854775807 by decide)
    have HMK := Lib.hid hm1000
    have H3 := Lib.hid h3
    have HB3 := Lib.hid hb3
    clear h3 hb3 hm g1 g2 g3 hm1000
    go_enter Try.func3, Try.ntmps3
    go_wp2_with fail
    refine (newS_any room w m HM.out).mono ?_
    rintro e w1 ⟨rfl, hR, hB⟩
    have HR := Lib.hid hR
    have HB := Lib.hid hB
    clear hR hB
    obtain ⟨p, hp⟩ : ∃ p, p = w.heap.size := ⟨_, rfl⟩
    rw [← hp] at HR ⊢
    have HP := Lib.hid hp
    clear hp
    go_wp2_with fail
    go_loopw [9, 8] (fun i x wr => ∃ (k : Nat) (L : List (List UInt8)) (xv : Value) (g : Nat), k ≤ l.length ∧ i = .int .i64 k ∧ L.length ≤ k ∧ x = xv ∧ TRow wr w.heap.size xv L ∧ xv.ownBlock ≠ some p ∧ xv.ownBlock ≠ some g ∧ RingS wr p g m L ∧ w.heap.size ≤ g ∧ Below w.heap.size w wr) (fun i _ _ => l.length - (intOf i).toNat)
    case atStart => exact ⟨0, [], _, p, by omega, rfl, by simp, rfl, RowAt.nil _ _ _ _, by simp [Value.ownBlock], by simp [Value.ownBlock], HR.out, by have := HP.out; omega, HB.out⟩
    case round =>
      obtain ⟨k, L, xv, g, hk, rfl, hLk, rfl, hX, hdp, hdg, hR, hg, hB⟩ := hrel
      obtain ⟨Ax, cx, hxv, hx1, hx2, _, _⟩ := hX.form
      obtain ⟨nx, hnx⟩ : ∃ nx, nx = L.length := ⟨_, rfl⟩
      rw [← hnx] at hxv hx1
      subst hxv
      have hn100 : (nx : Int) ≤ 100 := by omega
      have HNX := Lib.hid hnx
      have hX : RowAt wr w.heap.size 9 1 (.slice Ax nx cx) nx (tvals L) := by rw [hnx] at hX ⊢; exact hX
      clear hnx
      by_cases hlt : k < l.length
      · obtain ⟨b, o, rfl, hb, hcb⟩ := H3.out k hlt
        have hcr := (hB.cell (p := ⟨b, o + k, none⟩) hb).trans hcb
        generalize l[k] = y at hcr hcb
        have HCB := Lib.hid (And.intro hb hcb)
        clear hb hcb
        by_cases hpk : k < ps.length
        · obtain ⟨bb, ob, rfl, hbb, hcbb⟩ := HB3.out k hpk
          have dk : decide (k < ps.length) = true := by simp [hpk]
          generalize ps[k] = pb at hcbb
          have HCBB := Lib.hid (And.intro hbb hcbb)
          clear hbb hcbb
          have hN1 := hR.below ((Below.refl _ wr).alloc (Nat.le_refl _) (.cells #[.string (str y)] 9))
          have hS1 := Sits.fresh wr 9 #[.string (str y)]
          have hsl := sliceS_sits hS1 [y] 1 (by simp) (by omega) (fun i hi => by
            rcases i with _ | i
            · rfl
            · simp at hi)
          have hX1 := hX.below ((Below.refl _ wr).alloc (Nat.le_refl _) (.cells #[.string (str y)] 9))
          have hB1 := hB.alloc hB.size (.cells #[.string (str y)] 9)
          have hltg := hR.lt
          have hltx : ∀ k, Value.ownBlock (.slice Ax nx cx) = some k → k < wr.heap.size := fun k hk => (hX.lt k hk).2
          have HN := Lib.hid (And.intro hN1 (And.intro hsl (And.intro hltg (And.intro hB1 (And.intro hX1 (And.intro hdp (And.intro hdg (And.intro hg hltx))))))))
          clear hN1 hsl hltg hB1 hX1 hS1 hR hX hB hdp hdg hg hltx
          cases pb
          · by_cases hroom : L.length < m
            · have em : 1 = min [y].length (m - L.length) := by simp; omega
              have HPU := Lib.hid (pushS_any p g m L [y] (some ⟨wr.heap.size, 0, none⟩) 1 1 em _ HN.out.1 HN.out.2.1 (fun b o _ e => by
                have := HN.out.2.2.1
                simp only [Option.some.injEq, Addr.mk.injEq, and_true] at e
                omega))
              clear em
              go_wp2_with fail
              refine HPU.out.mono ?_
              rintro e w2 ⟨rfl, g2, hg2, hR2, hT⟩
              clear HPU
              have hX2 := HN.out.2.2.2.2.1.two hT HN.out.2.2.2.2.2.1 HN.out.2.2.2.2.2.2.1
              have hB2 := HN.out.2.2.2.1.trans (hT.below (by have := HP.out; omega) HN.out.2.2.2.2.2.2.2.1 HN.out.2.2.2.1.size)
              have hg2' : w.heap.size ≤ g2 := by
                have := HN.out.2.2.2.1.size
                have := HN.out.2.2.2.2.2.2.2.1
                rcases hg2 with rfl | h <;> omega
              have hd2 : Value.ownBlock (.slice Ax nx cx) ≠ some g2 := by
                rcases hg2 with rfl | h
                · exact HN.out.2.2.2.2.2.2.1
                · intro e
                  have := HN.out.2.2.2.2.2.2.2.2 _ e
                  rw [World.size_alloc] at h
                  omega
              have hcr2 := (hB2.cell (p := ⟨b, o + k, none⟩) HCB.out.1).trans HCB.out.2
              rw [List.take_of_length_le (by simp)] at hR2
              have hX3 := hX2.below ((Below.refl _ w2).alloc (Nat.le_refl _) (.cells #[.string (str y)] 9))
              have hsrc : Src Try.prog 1 22 (.slice (some ⟨w2.heap.size, 0, none⟩) 1 1) 1 [Value.string (str y)] (w2.alloc (.cells #[.string (str y)] 9)) := src_slice Try.underlying22 rfl (fun _ => ⟨w2.heap.size, 0, rfl, fun j u hu => by
                rw [Nat.zero_add, (Sits.fresh w2 9 #[.string (str y)]).cell j]
                simpa using hu⟩) (by simp [Value.oneCell'])
              obtain ⟨v3, w3, hr3, hX4, gr3, at3⟩ := appendAt_src elem_txt hX3 hsrc 22 (by rw [HMX.out]; omega) (by omega) (by have := hB2.size; simp; omega)
              have hX5 : TRow w3 w.heap.size v3 (L ++ [y]) := by
                have e1 : (L ++ [y]).length = nx + 1 := by rw [HNX.out]; simp
                have e2 : tvals (L ++ [y]) = tvals L ++ [Value.string (str y)] := by simp [tvals]
                show RowAt w3 w.heap.size 9 1 v3 (L ++ [y]).length (tvals (L ++ [y]))
                rw [e1, e2]
                exact hX4
              have hR3 : RingS w3 p g2 m (L ++ [y]) := (hR2.below ((Below.refl _ w2).alloc (Nat.le_refl _) (.cells #[.string (str y)] 9))).keep fun b t cs hb hs => (gr3.block b hs.lt (by
                intro e
                rcases hb with rfl | rfl
                · exact HN.out.2.2.2.2.2.1 e.symm
                · exact hd2 e.symm)).trans hs
              have hB3 := (hB2.alloc hB2.size (.cells #[.string (str y)] 9)).grown gr3 (by have := hB2.size; simp; omega) (fun k hk => (hX3.lt k hk).1)
              have hlt2 := hR2.lt
              have hd3 : v3.ownBlock ≠ some p ∧ v3.ownBlock ≠ some g2 := by
                rcases at3 with e | e
                · rw [e]; exact ⟨HN.out.2.2.2.2.2.1, hd2⟩
                · rw [e]
                  simp only [World.size_alloc, ne_eq, Option.some.injEq]
                  omega
              obtain ⟨A3, c3, hv3, h31, h32, _, _⟩ := hX5.form
              obtain ⟨L2, hL2⟩ : ∃ L2, L2 = L ++ [y] := ⟨_, rfl⟩
              rw [← hL2] at hX5 hR3 hv3 h31
              have hL2k : L2.length ≤ k + 1 := by rw [hL2]; simp; omega
              obtain ⟨n3, hn3⟩ : ∃ n3, n3 = L2.length := ⟨_, rfl⟩
              rw [← hn3] at hv3 h31
              subst hv3
              have HRUN := Lib.hid hr3
              have hn101 : (n3 : Int) ≤ 101 := by rw [hn3]; omega
              have HN3 := Lib.hid hn3
              have HS := Lib.hid (And.intro hX5 (And.intro hR3 (And.intro hB3 (And.intro hd3.1 (And.intro hd3.2 hg2')))))
              clear hX2 hX3 hX4 hX5 hR2 hR3 hB2 hB3 hd2 hd3 hg2 hg2' hT hsrc gr3 at3 hr3 hlt2 hL2 HN hn3
              have hcp3 := (HS.out.2.2.1.cell (p := ⟨bb, ob + k, none⟩) HCBB.out.1).trans HCBB.out.2
              go_wp2_with (at_builtin; refine wpList_append_eq rfl (.tmp 43) (.tmp 48) 22 22 rfl _ _ _ rfl rfl HRUN.out ?_)
              go_roundw
              case rel => exact ⟨k + 1, L2, _, g2, by omega, by go_num, hL2k, rfl, HS.out.1, HS.out.2.2.2.1, HS.out.2.2.2.2.1, HS.out.2.1, HS.out.2.2.2.2.2, HS.out.2.2.1⟩
              case measure => simp [intOf]; omega
            · have em : 0 = min [y].length (m - L.length) := by simp; omega
              have HPU := Lib.hid (pushS_any p g m L [y] (some ⟨wr.heap.size, 0, none⟩) 1 0 em _ HN.out.1 HN.out.2.1 (fun b o _ e => by
                have := HN.out.2.2.1
                simp only [Option.some.injEq, Addr.mk.injEq, and_true] at e
                omega))
              clear em
              go_wp2_with fail
              refine HPU.out.mono ?_
              rintro e w2 ⟨rfl, g2, hg2, hR2, hT⟩
              clear HPU
              have hX2 := HN.out.2.2.2.2.1.two hT HN.out.2.2.2.2.2.1 HN.out.2.2.2.2.2.2.1
              have hB2 := HN.out.2.2.2.1.trans (hT.below (by have := HP.out; omega) HN.out.2.2.2.2.2.2.2.1 HN.out.2.2.2.1.size)
              have hg2' : w.heap.size ≤ g2 := by
                have := HN.out.2.2.2.1.size
                have := HN.out.2.2.2.2.2.2.2.1
                rcases hg2 with rfl | h <;> omega
              have hd2 : Value.ownBlock (.slice Ax nx cx) ≠ some g2 := by
                rcases hg2 with rfl | h
                · exact HN.out.2.2.2.2.2.2.1
                · intro e
                  have := HN.out.2.2.2.2.2.2.2.2 _ e
                  rw [World.size_alloc] at h
                  omega
              have hcr2 := (hB2.cell (p := ⟨b, o + k, none⟩) HCB.out.1).trans HCB.out.2
              rw [List.take_zero, List.append_nil] at hR2
              have HS := Lib.hid (And.intro (show TRow w2 w.heap.size (.slice Ax nx cx) L by show RowAt _ _ _ _ _ L.length _; rw [← HNX.out]; exact hX2) (And.intro hR2 (And.intro hB2 (And.intro HN.out.2.2.2.2.2.1 (And.intro hd2 hg2')))))
              clear hX2 hR2 hB2 hd2 hg2 hg2' hT HN
              obtain ⟨n3, hn3e⟩ : ∃ n3, n3 = nx := ⟨_, rfl⟩
              obtain ⟨A3, hA3⟩ : ∃ A3, A3 = Ax := ⟨_, rfl⟩
              obtain ⟨c3, hc3⟩ : ∃ c3, c3 = cx := ⟨_, rfl⟩
              obtain ⟨L2, hL2⟩ : ∃ L2, L2 = L := ⟨_, rfl⟩
              obtain ⟨w3, hw3⟩ : ∃ w3, w3 = w2 := ⟨_, rfl⟩
              subst hn3e
              subst hA3
              subst hc3
              subst hL2
              subst hw3
              have HN3 := HNX
              have hL2k : L2.length ≤ k + 1 := by omega
              have h31 := hx1
              have h32 := hx2
              have hn101 : (n3 : Int) ≤ 101 := by omega
              have hcp3 := (HS.out.2.2.1.cell (p := ⟨bb, ob + k, none⟩) HCBB.out.1).trans HCBB.out.2
              go_wp2_with fail
              go_roundw
              case rel => exact ⟨k + 1, L2, _, g2, by omega, by go_num, hL2k, rfl, HS.out.1, HS.out.2.2.2.1, HS.out.2.2.2.2.1, HS.out.2.1, HS.out.2.2.2.2.2, HS.out.2.2.1⟩
              case measure => simp [intOf]; omega
          · by_cases hroom : L.length < m
            · have em : 1 = min [y].length (m - L.length) := by simp; omega
              have HPU := Lib.hid (pushS_any p g m L [y] (some ⟨wr.heap.size, 0, none⟩) 1 1 em _ HN.out.1 HN.out.2.1 (fun b o _ e => by
                have := HN.out.2.2.1
                simp only [Option.some.injEq, Addr.mk.injEq, and_true] at e
                omega))
              clear em
              go_wp2_with fail
              refine HPU.out.mono ?_
              rintro e w2 ⟨rfl, g2, hg2, hR2, hT⟩
              clear HPU
              have hX2 := HN.out.2.2.2.2.1.two hT HN.out.2.2.2.2.2.1 HN.out.2.2.2.2.2.2.1
              have hB2 := HN.out.2.2.2.1.trans (hT.below (by have := HP.out; omega) HN.out.2.2.2.2.2.2.2.1 HN.out.2.2.2.1.size)
              have hg2' : w.heap.size ≤ g2 := by
                have := HN.out.2.2.2.1.size
                have := HN.out.2.2.2.2.2.2.2.1
                rcases hg2 with rfl | h <;> omega
              have hd2 : Value.ownBlock (.slice Ax nx cx) ≠ some g2 := by
                rcases hg2 with rfl | h
                · exact HN.out.2.2.2.2.2.2.1
                · intro e
                  have := HN.out.2.2.2.2.2.2.2.2 _ e
                  rw [World.size_alloc] at h
                  omega
              have hcr2 := (hB2.cell (p := ⟨b, o + k, none⟩) HCB.out.1).trans HCB.out.2
              rw [List.take_of_length_le (by simp)] at hR2
              have hX3 := hX2.below ((Below.refl _ w2).alloc (Nat.le_refl _) (.cells #[.string (str y)] 9))
              have hsrc : Src Try.prog 1 22 (.slice (some ⟨w2.heap.size, 0, none⟩) 1 1) 1 [Value.string (str y)] (w2.alloc (.cells #[.string (str y)] 9)) := src_slice Try.underlying22 rfl (fun _ => ⟨w2.heap.size, 0, rfl, fun j u hu => by
                rw [Nat.zero_add, (Sits.fresh w2 9 #[.string (str y)]).cell j]
                simpa using hu⟩) (by simp [Value.oneCell'])
              obtain ⟨v3, w3, hr3, hX4, gr3, at3⟩ := appendAt_src elem_txt hX3 hsrc 22 (by rw [HMX.out]; omega) (by omega) (by have := hB2.size; simp; omega)
              have hX5 : TRow w3 w.heap.size v3 (L ++ [y]) := by
                have e1 : (L ++ [y]).length = nx + 1 := by rw [HNX.out]; simp
                have e2 : tvals (L ++ [y]) = tvals L ++ [Value.string (str y)] := by simp [tvals]
                show RowAt w3 w.heap.size 9 1 v3 (L ++ [y]).length (tvals (L ++ [y]))
                rw [e1, e2]
                exact hX4
              have hR3 : RingS w3 p g2 m (L ++ [y]) := (hR2.below ((Below.refl _ w2).alloc (Nat.le_refl _) (.cells #[.string (str y)] 9))).keep fun b t cs hb hs => (gr3.block b hs.lt (by
                intro e
                rcases hb with rfl | rfl
                · exact HN.out.2.2.2.2.2.1 e.symm
                · exact hd2 e.symm)).trans hs
              have hB3 := (hB2.alloc hB2.size (.cells #[.string (str y)] 9)).grown gr3 (by have := hB2.size; simp; omega) (fun k hk => (hX3.lt k hk).1)
              have hlt2 := hR2.lt
              have hd3 : v3.ownBlock ≠ some p ∧ v3.ownBlock ≠ some g2 := by
                rcases at3 with e | e
                · rw [e]; exact ⟨HN.out.2.2.2.2.2.1, hd2⟩
                · rw [e]
                  simp only [World.size_alloc, ne_eq, Option.some.injEq]
                  omega
              obtain ⟨A3, c3, hv3, h31, h32, _, _⟩ := hX5.form
              obtain ⟨L2, hL2⟩ : ∃ L2, L2 = L ++ [y] := ⟨_, rfl⟩
              rw [← hL2] at hX5 hR3 hv3 h31
              have hL2k : L2.length ≤ k + 1 := by rw [hL2]; simp; omega
              obtain ⟨n3, hn3⟩ : ∃ n3, n3 = L2.length := ⟨_, rfl⟩
              rw [← hn3] at hv3 h31
              subst hv3
              have HRUN := Lib.hid hr3
              have hn101 : (n3 : Int) ≤ 101 := by rw [hn3]; omega
              have HN3 := Lib.hid hn3
              have HS := Lib.hid (And.intro hX5 (And.intro hR3 (And.intro hB3 (And.intro hd3.1 (And.intro hd3.2 hg2')))))
              clear hX2 hX3 hX4 hX5 hR2 hR3 hB2 hB3 hd2 hd3 hg2 hg2' hT hsrc gr3 at3 hr3 hlt2 hL2 HN hn3
              have hcp3 := (HS.out.2.2.1.cell (p := ⟨bb, ob + k, none⟩) HCBB.out.1).trans HCBB.out.2
              go_wp2_with (at_builtin; refine wpList_append_eq rfl (.tmp 43) (.tmp 48) 22 22 rfl _ _ _ rfl rfl HRUN.out ?_)
              refine (popS_any p g2 m L2 _ HS.out.2.1).mono ?_
              rintro e w5 ⟨rfl, hR5, hT5⟩
              have hX5 := HS.out.1.two hT5 HS.out.2.2.2.1 HS.out.2.2.2.2.1
              have hB5 := HS.out.2.2.1.trans (hT5.below (by have := HP.out; omega) HS.out.2.2.2.2.2 HS.out.2.2.1.size)
              have HD := Lib.hid HS.out.2.2.2
              clear hT5 HS
              cases L2 with
              | nil =>
                have hn0 : n3 = 0 := HN3.out
                subst hn0
                have HS5 := Lib.hid (And.intro hX5 (And.intro hR5 hB5))
                clear hX5 hR5 hB5
                simp only [topS, List.isEmpty_nil, Bool.not_true]
                go_wp2
                go_roundw
                case rel => exact ⟨k + 1, [], _, g2, by omega, by go_num, by simp, rfl, HS5.out.1, HD.out.1, HD.out.2.1, HS5.out.2.1, HD.out.2.2, HS5.out.2.2⟩
                case measure => simp [intOf]; omega
              | cons x Lt =>
                obtain ⟨gx, ox, cX, hvx, hx3, hx4, hx0, hxc⟩ := TRow.cut hX5
                simp only [Value.slice.injEq] at hvx
                obtain ⟨rfl, hn4, rfl⟩ := hvx
                subst hn4
                have tt : ((str x).toList != (str x).toList) = false := by simp
                simp only [topS, List.isEmpty_cons, Bool.not_false]
                have hLt : Lt.length + 1 ≤ k + 1 := by simpa using hL2k
                by_cases hcz : c3 = 1
                · subst hcz
                  have hl0 : Lt = [] := List.eq_nil_of_length_eq_zero (by omega)
                  subst hl0
                  have HS5 := Lib.hid (And.intro (TRow.cut1 hX5) (And.intro hR5 hB5))
                  clear hX5 hR5 hB5 hxc
                  go_wp2
                  go_roundw
                  case rel => exact ⟨k + 1, [], _, g2, by omega, by go_num, by simp, rfl, HS5.out.1, HD.out.1, HD.out.2.1, HS5.out.2.1, HD.out.2.2, HS5.out.2.2⟩
                  case measure => simp [intOf]; omega
                · have hcz1 : ¬ ((c3 : Int) - 1 = 0) := by omega
                  have hcz2 : ¬ (c3 - 1 = 0) := by omega
                  have HS5 := Lib.hid (And.intro hxc (And.intro hR5 hB5))
                  clear hX5 hR5 hB5 hxc
                  go_wp2
                  go_roundw
                  case rel => exact ⟨k + 1, Lt, _, g2, by omega, by go_num, by omega, rfl, HS5.out.1, HD.out.1, HD.out.2.1, HS5.out.2.1, HD.out.2.2, HS5.out.2.2⟩
                  case measure => simp [intOf]; omega
            · have em : 0 = min [y].length (m - L.length) := by simp; omega
              have HPU := Lib.hid (pushS_any p g m L [y] (some ⟨wr.heap.size, 0, none⟩) 1 0 em _ HN.out.1 HN.out.2.1 (fun b o _ e => by
                have := HN.out.2.2.1
                simp only [Option.some.injEq, Addr.mk.injEq, and_true] at e
                omega))
              clear em
              go_wp2_with fail
              refine HPU.out.mono ?_
              rintro e w2 ⟨rfl, g2, hg2, hR2, hT⟩
              clear HPU
              have hX2 := HN.out.2.2.2.2.1.two hT HN.out.2.2.2.2.2.1 HN.out.2.2.2.2.2.2.1
              have hB2 := HN.out.2.2.2.1.trans (hT.below (by have := HP.out; omega) HN.out.2.2.2.2.2.2.2.1 HN.out.2.2.2.1.size)
              have hg2' : w.heap.size ≤ g2 := by
                have := HN.out.2.2.2.1.size
                have := HN.out.2.2.2.2.2.2.2.1
                rcases hg2 with rfl | h <;> omega
              have hd2 : Value.ownBlock (.slice Ax nx cx) ≠ some g2 := by
                rcases hg2 with rfl | h
                · exact HN.out.2.2.2.2.2.2.1
                · intro e
                  have := HN.out.2.2.2.2.2.2.2.2 _ e
                  rw [World.size_alloc] at h
                  omega
              have hcr2 := (hB2.cell (p := ⟨b, o + k, none⟩) HCB.out.1).trans HCB.out.2
              rw [List.take_zero, List.append_nil] at hR2
              have HS := Lib.hid (And.intro (show TRow w2 w.heap.size (.slice Ax nx cx) L by show RowAt _ _ _ _ _ L.length _; rw [← HNX.out]; exact hX2) (And.intro hR2 (And.intro hB2 (And.intro HN.out.2.2.2.2.2.1 (And.intro hd2 hg2')))))
              clear hX2 hR2 hB2 hd2 hg2 hg2' hT HN
              obtain ⟨n3, hn3e⟩ : ∃ n3, n3 = nx := ⟨_, rfl⟩
              obtain ⟨A3, hA3⟩ : ∃ A3, A3 = Ax := ⟨_, rfl⟩
              obtain ⟨c3, hc3⟩ : ∃ c3, c3 = cx := ⟨_, rfl⟩
              obtain ⟨L2, hL2⟩ : ∃ L2, L2 = L := ⟨_, rfl⟩
              obtain ⟨w3, hw3⟩ : ∃ w3, w3 = w2 := ⟨_, rfl⟩
              subst hn3e
              subst hA3
              subst hc3
              subst hL2
              subst hw3
              have HN3 := HNX
              have hL2k : L2.length ≤ k + 1 := by omega
              have h31 := hx1
              have h32 := hx2
              have hn101 : (n3 : Int) ≤ 101 := by omega
              have hcp3 := (HS.out.2.2.1.cell (p := ⟨bb, ob + k, none⟩) HCBB.out.1).trans HCBB.out.2
              go_wp2_with fail
              refine (popS_any p g2 m L2 _ HS.out.2.1).mono ?_
              rintro e w5 ⟨rfl, hR5, hT5⟩
              have hX5 := HS.out.1.two hT5 HS.out.2.2.2.1 HS.out.2.2.2.2.1
              have hB5 := HS.out.2.2.1.trans (hT5.below (by have := HP.out; omega) HS.out.2.2.2.2.2 HS.out.2.2.1.size)
              have HD := Lib.hid HS.out.2.2.2
              clear hT5 HS
              cases L2 with
              | nil =>
                have hn0 : n3 = 0 := HN3.out
                subst hn0
                have HS5 := Lib.hid (And.intro hX5 (And.intro hR5 hB5))
                clear hX5 hR5 hB5
                simp only [topS, List.isEmpty_nil, Bool.not_true]
                go_wp2
                go_roundw
                case rel => exact ⟨k + 1, [], _, g2, by omega, by go_num, by simp, rfl, HS5.out.1, HD.out.1, HD.out.2.1, HS5.out.2.1, HD.out.2.2, HS5.out.2.2⟩
                case measure => simp [intOf]; omega
              | cons x Lt =>
                obtain ⟨gx, ox, cX, hvx, hx3, hx4, hx0, hxc⟩ := TRow.cut hX5
                simp only [Value.slice.injEq] at hvx
                obtain ⟨rfl, hn4, rfl⟩ := hvx
                subst hn4
                have tt : ((str x).toList != (str x).toList) = false := by simp
                simp only [topS, List.isEmpty_cons, Bool.not_false]
                have hLt : Lt.length + 1 ≤ k + 1 := by simpa using hL2k
                by_cases hcz : c3 = 1
                · subst hcz
                  have hl0 : Lt = [] := List.eq_nil_of_length_eq_zero (by omega)
                  subst hl0
                  have HS5 := Lib.hid (And.intro (TRow.cut1 hX5) (And.intro hR5 hB5))
                  clear hX5 hR5 hB5 hxc
                  go_wp2
                  go_roundw
                  case rel => exact ⟨k + 1, [], _, g2, by omega, by go_num, by simp, rfl, HS5.out.1, HD.out.1, HD.out.2.1, HS5.out.2.1, HD.out.2.2, HS5.out.2.2⟩
                  case measure => simp [intOf]; omega
                · have hcz1 : ¬ ((c3 : Int) - 1 = 0) := by omega
                  have hcz2 : ¬ (c3 - 1 = 0) := by omega
                  have HS5 := Lib.hid (And.intro hxc (And.intro hR5 hB5))
                  clear hX5 hR5 hB5 hxc
                  go_wp2
                  go_roundw
                  case rel => exact ⟨k + 1, Lt, _, g2, by omega, by go_num, by omega, rfl, HS5.out.1, HD.out.1, HD.out.2.1, HS5.out.2.1, HD.out.2.2, HS5.out.2.2⟩
                  case measure => simp [intOf]; omega
        · have dk : decide (k < ps.length) = false := by simp [hpk]
          clear hpk
          have hN1 := hR.below ((Below.refl _ wr).alloc (Nat.le_refl _) (.cells #[.string (str y)] 9))
          have hS1 := Sits.fresh wr 9 #[.string (str y)]
          have hsl := sliceS_sits hS1 [y] 1 (by simp) (by omega) (fun i hi => by
            rcases i with _ | i
            · rfl
            · simp at hi)
          have hX1 := hX.below ((Below.refl _ wr).alloc (Nat.le_refl _) (.cells #[.string (str y)] 9))
          have hB1 := hB.alloc hB.size (.cells #[.string (str y)] 9)
          have hltg := hR.lt
          have hltx : ∀ k, Value.ownBlock (.slice Ax nx cx) = some k → k < wr.heap.size := fun k hk => (hX.lt k hk).2
          have HN := Lib.hid (And.intro hN1 (And.intro hsl (And.intro hltg (And.intro hB1 (And.intro hX1 (And.intro hdp (And.intro hdg (And.intro hg hltx))))))))
          clear hN1 hsl hltg hB1 hX1 hS1 hR hX hB hdp hdg hg hltx
          by_cases hroom : L.length < m
          · have em : 1 = min [y].length (m - L.length) := by simp; omega
            have HPU := Lib.hid (pushS_any p g m L [y] (some ⟨wr.heap.size, 0, none⟩) 1 1 em _ HN.out.1 HN.out.2.1 (fun b o _ e => by
              have := HN.out.2.2.1
              simp only [Option.some.injEq, Addr.mk.injEq, and_true] at e
              omega))
            clear em
            go_wp2_with fail
            refine HPU.out.mono ?_
            rintro e w2 ⟨rfl, g2, hg2, hR2, hT⟩
            clear HPU
            have hX2 := HN.out.2.2.2.2.1.two hT HN.out.2.2.2.2.2.1 HN.out.2.2.2.2.2.2.1
            have hB2 := HN.out.2.2.2.1.trans (hT.below (by have := HP.out; omega) HN.out.2.2.2.2.2.2.2.1 HN.out.2.2.2.1.size)
            have hg2' : w.heap.size ≤ g2 := by
              have := HN.out.2.2.2.1.size
              have := HN.out.2.2.2.2.2.2.2.1
              rcases hg2 with rfl | h <;> omega
            have hd2 : Value.ownBlock (.slice Ax nx cx) ≠ some g2 := by
              rcases hg2 with rfl | h
              · exact HN.out.2.2.2.2.2.2.1
              · intro e
                have := HN.out.2.2.2.2.2.2.2.2 _ e
                rw [World.size_alloc] at h
                omega
            have hcr2 := (hB2.cell (p := ⟨b, o + k, none⟩) HCB.out.1).trans HCB.out.2
            rw [List.take_of_length_le (by simp)] at hR2
            have hX3 := hX2.below ((Below.refl _ w2).alloc (Nat.le_refl _) (.cells #[.string (str y)] 9))
            have hsrc : Src Try.prog 1 22 (.slice (some ⟨w2.heap.size, 0, none⟩) 1 1) 1 [Value.string (str y)] (w2.alloc (.cells #[.string (str y)] 9)) := src_slice Try.underlying22 rfl (fun _ => ⟨w2.heap.size, 0, rfl, fun j u hu => by
              rw [Nat.zero_add, (Sits.fresh w2 9 #[.string (str y)]).cell j]
              simpa using hu⟩) (by simp [Value.oneCell'])
            obtain ⟨v3, w3, hr3, hX4, gr3, at3⟩ := appendAt_src elem_txt hX3 hsrc 22 (by rw [HMX.out]; omega) (by omega) (by have := hB2.size; simp; omega)
            have hX5 : TRow w3 w.heap.size v3 (L ++ [y]) := by
              have e1 : (L ++ [y]).length = nx + 1 := by rw [HNX.out]; simp
              have e2 : tvals (L ++ [y]) = tvals L ++ [Value.string (str y)] := by simp [tvals]
              show RowAt w3 w.heap.size 9 1 v3 (L ++ [y]).length (tvals (L ++ [y]))
              rw [e1, e2]
              exact hX4
            have hR3 : RingS w3 p g2 m (L ++ [y]) := (hR2.below ((Below.refl _ w2).alloc (Nat.le_refl _) (.cells #[.string (str y)] 9))).keep fun b t cs hb hs => (gr3.block b hs.lt (by
              intro e
              rcases hb with rfl | rfl
              · exact HN.out.2.2.2.2.2.1 e.symm
              · exact hd2 e.symm)).trans hs
            have hB3 := (hB2.alloc hB2.size (.cells #[.string (str y)] 9)).grown gr3 (by have := hB2.size; simp; omega) (fun k hk => (hX3.lt k hk).1)
            have hlt2 := hR2.lt
            have hd3 : v3.ownBlock ≠ some p ∧ v3.ownBlock ≠ some g2 := by
              rcases at3 with e | e
              · rw [e]; exact ⟨HN.out.2.2.2.2.2.1, hd2⟩
              · rw [e]
                simp only [World.size_alloc, ne_eq, Option.some.injEq]
                omega
            obtain ⟨A3, c3, hv3, h31, h32, _, _⟩ := hX5.form
            obtain ⟨L2, hL2⟩ : ∃ L2, L2 = L ++ [y] := ⟨_, rfl⟩
            rw [← hL2] at hX5 hR3 hv3 h31
            have hL2k : L2.length ≤ k + 1 := by rw [hL2]; simp; omega
            obtain ⟨n3, hn3⟩ : ∃ n3, n3 = L2.length := ⟨_, rfl⟩
            rw [← hn3] at hv3 h31
            subst hv3
            have HRUN := Lib.hid hr3
            have hn101 : (n3 : Int) ≤ 101 := by rw [hn3]; omega
            have HN3 := Lib.hid hn3
            have HS := Lib.hid (And.intro hX5 (And.intro hR3 (And.intro hB3 (And.intro hd3.1 (And.intro hd3.2 hg2')))))
            clear hX2 hX3 hX4 hX5 hR2 hR3 hB2 hB3 hd2 hd3 hg2 hg2' hT hsrc gr3 at3 hr3 hlt2 hL2 HN hn3
            go_wp2_with (at_builtin; refine wpList_append_eq rfl (.tmp 43) (.tmp 48) 22 22 rfl _ _ _ rfl rfl HRUN.out ?_)
            go_roundw
            case rel => exact ⟨k + 1, L2, _, g2, by omega, by go_num, hL2k, rfl, HS.out.1, HS.out.2.2.2.1, HS.out.2.2.2.2.1, HS.out.2.1, HS.out.2.2.2.2.2, HS.out.2.2.1⟩
            case measure => simp [intOf]; omega
          · have em : 0 = min [y].length (m - L.length) := by simp; omega
            have HPU := Lib.hid (pushS_any p g m L [y] (some ⟨wr.heap.size, 0, none⟩) 1 0 em _ HN.out.1 HN.out.2.1 (fun b o _ e => by
              have := HN.out.2.2.1
              simp only [Option.some.injEq, Addr.mk.injEq, and_true] at e
              omega))
            clear em
            go_wp2_with fail
            refine HPU.out.mono ?_
            rintro e w2 ⟨rfl, g2, hg2, hR2, hT⟩
            clear HPU
            have hX2 := HN.out.2.2.2.2.1.two hT HN.out.2.2.2.2.2.1 HN.out.2.2.2.2.2.2.1
            have hB2 := HN.out.2.2.2.1.trans (hT.below (by have := HP.out; omega) HN.out.2.2.2.2.2.2.2.1 HN.out.2.2.2.1.size)
            have hg2' : w.heap.size ≤ g2 := by
              have := HN.out.2.2.2.1.size
              have := HN.out.2.2.2.2.2.2.2.1
              rcases hg2 with rfl | h <;> omega
            have hd2 : Value.ownBlock (.slice Ax nx cx) ≠ some g2 := by
              rcases hg2 with rfl | h
              · exact HN.out.2.2.2.2.2.2.1
              · intro e
                have := HN.out.2.2.2.2.2.2.2.2 _ e
                rw [World.size_alloc] at h
                omega
            have hcr2 := (hB2.cell (p := ⟨b, o + k, none⟩) HCB.out.1).trans HCB.out.2
            rw [List.take_zero, List.append_nil] at hR2
            have HS := Lib.hid (And.intro (show TRow w2 w.heap.size (.slice Ax nx cx) L by show RowAt _ _ _ _ _ L.length _; rw [← HNX.out]; exact hX2) (And.intro hR2 (And.intro hB2 (And.intro HN.out.2.2.2.2.2.1 (And.intro hd2 hg2')))))
            clear hX2 hR2 hB2 hd2 hg2 hg2' hT HN
            obtain ⟨n3, hn3e⟩ : ∃ n3, n3 = nx := ⟨_, rfl⟩
            obtain ⟨A3, hA3⟩ : ∃ A3, A3 = Ax := ⟨_, rfl⟩
            obtain ⟨c3, hc3⟩ : ∃ c3, c3 = cx := ⟨_, rfl⟩
            obtain ⟨L2, hL2⟩ : ∃ L2, L2 = L := ⟨_, rfl⟩
            obtain ⟨w3, hw3⟩ : ∃ w3, w3 = w2 := ⟨_, rfl⟩
            subst hn3e
            subst hA3
            subst hc3
            subst hL2
            subst hw3
            have HN3 := HNX
            have hL2k : L2.length ≤ k + 1 := by omega
            have h31 := hx1
            have h32 := hx2
            have hn101 : (n3 : Int) ≤ 101 := by omega
            go_wp2_with fail
            go_roundw
            case rel => exact ⟨k + 1, L2, _, g2, by omega, by go_num, hL2k, rfl, HS.out.1, HS.out.2.2.2.1, HS.out.2.2.2.2.1, HS.out.2.1, HS.out.2.2.2.2.2, HS.out.2.2.1⟩
            case measure => simp [intOf]; omega
      · have HE := Lib.hid (And.intro (show TRow wr w.heap.size (.slice Ax nx cx) L by show RowAt _ _ _ _ _ L.length _; rw [← HNX.out]; exact hX) (And.intro hR hB))
        clear hX hR hB hdp hdg hg
        go_wp2_with fail
        refine (alive_any _).mono ?_
        rintro e w2 ⟨rfl, hb⟩
        have HE2 := Lib.hid (And.intro (HE.out.1.below hb) (And.intro (HE.out.2.1.below hb) (HE.out.2.2.trans (hb.mono HE.out.2.2.size))))
        clear hb HE
        go_wp2_with fail
        refine (listS_any p g m L _ HE2.out.2.1).mono ?_
        rintro e w3 ⟨rfl, hS, hb⟩
        have HE3 := Lib.hid (And.intro (sliceS_sits hS L L.length (Nat.le_refl _) (by omega) (fun i hi => by simp [hi])) (And.intro (HE2.out.1.below hb) (And.intro (HE2.out.2.1.below hb) (HE2.out.2.2.trans (hb.mono HE2.out.2.2.size)))))
        clear hS hb HE2
        go_wp2_with fail
        refine (sameTexts_yes _ _ L _ HE3.out.1 (TRow.texts HE3.out.2.1)).mono ?_
        rintro e w4 ⟨rfl, n4, rfl⟩
        go_wp2_with fail
        refine (lenS_any p g m L _ (HE3.out.2.2.1.drewN n4)).mono ?_
        rintro e w5 ⟨rfl, rfl⟩
        have hhead := HE3.out.2.2.1.head.2.1
        have hLq : (L.length : Int) ≤ max room 0 := by have := HM.out; omega
        clear hhead
        by_cases hr0 : room < 0
        · have d0 : decide (L = []) = true := by
            have : L = [] := List.eq_nil_of_length_eq_zero (by omega)
            simp [this]
          clear hLq
          go_wp2
          go_ret
          exact ⟨rfl, below_drewN HE3.out.2.2.2 n4⟩
        · have hLr : (L.length : Int) ≤ room := by omega
          have dq : decide ((L.length : Int) ≤ room) = true := by simp [hLr]
          clear hLq
          go_wp2
          go_ret
          exact ⟨rfl, below_drewN HE3.out.2.2.2 n4⟩
  · refine tail _ _ _ rfl rfl rfl ?_
    simp only [Bool.or_eq_true, decide_eq_true_eq]
    omega

set_option maxRecDepth 100000 in
theorem ringTexts_lifted (os : Os) (started : os.Started) (H : Type) (enc : TypeId × Value → H) :
    ReturnsInHanded {} Try.checked os 3 .any (Rows.ringTextsSpec.pre6 enc Try.prog Try.f3 Rows.ringTextsRow.domain false) (Rows.ringTextsSpec.post enc Try.prog Try.f3 false true false false) := by
  refine returnsInHanded_of_change (C := Try.checked) own started (by kernel_rfl) Try.func3
    (ChangeSpec.witness6 (enc := enc) (C := Try.checked) false ⟨#[], #[.int .i64 0, .slice none 0 0, .slice none 0 0], []⟩ 8 (by kernel_rfl) (by kernel_rfl) (by kernel_rfl) (by kernel_rfl)) ?_
  intro W base args ds gs before hval0 hW _ _
  have hval : ∀ (j : Nat) t v, Try.f3.params[j]? = some t → args[j]? = some v → Value.okWide Try.prog W .any base t v := hval0
  have hW' := hW
  obtain ⟨p, q, hA0, hV, rfl, hfz, hnd⟩ := hW
  have hA : DataW.TrodAll enc Try.prog W 0 (fun _ => true) true Try.f3.params.toList args.toList ds p := hA0
  rw [Try.params3] at hA hval
  obtain ⟨v0, vs0, d0, ds0, p0, q0, hargs, rfl, rfl, h0, r0⟩ := trodAll_cons hA
  obtain ⟨v1, vs1, d1, ds1, p1, q1, rfl, rfl, rfl, h1, r1⟩ := trodAll_cons r0
  obtain ⟨v2, vs2, d2, ds2, p2, q2, rfl, rfl, rfl, h2, r2⟩ := trodAll_cons r1
  obtain ⟨rfl, rfl, rfl⟩ := trodAll_nil r2
  obtain rfl : args = #[v0, v1, v2] := by cases args; simp_all
  obtain ⟨rfl, rfl⟩ := trodVars_none hV
  have k0 := h0
  have lt0 : ∀ x ∈ p0, x.block < W.heap.size := by obtain ⟨m, hm⟩ := k0; exact DataW.trod_lt m _ _ _ hm
  have k1 := h1
  have lt1 : ∀ x ∈ p1, x.block < W.heap.size := by obtain ⟨m, hm⟩ := k1; exact DataW.trod_lt m _ _ _ hm
  have k2 := h2
  have lt2 : ∀ x ∈ p2, x.block < W.heap.size := by obtain ⟨m, hm⟩ := k2; exact DataW.trod_lt m _ _ _ hm
  obtain ⟨a0, rfl, rfl, rfl, w0⟩ := open_int Try.underlying3 (hval 0 3 v0 rfl rfl) h0
  obtain ⟨a1, w1⟩ := texts_open (hval 1 22 v1 rfl rfl) k1
  obtain ⟨a2, w2⟩ := bools_open (hval 2 23 v2 rfl rfl) k2
  clear hA0 hval0
  refine (ringTexts_walk a0 w0 v1 a1 v2 a2 W w1 w2).mono fun e W' ⟨he, bel⟩ => ?_
  subst he
  exact ⟨_, rfl, _, _, _, [], _, [], hW', trodAll_mk1 (shut_bool Try.underlying4 _), (trodAll_cons_mk (Below.trod laidOut (by kernel_rfl) (of_decide_eq_true (by kernel_rfl)) k0 bel lt0) (trodAll_cons_mk (Below.trod laidOut (by kernel_rfl) (of_decide_eq_true (by kernel_rfl)) k1 bel lt1) (trodAll_cons_mk (Below.trod laidOut (by kernel_rfl) (of_decide_eq_true (by kernel_rfl)) k2 bel lt2) trodAll_mk0))), rfl, bel.frame _, fun h => by cases h⟩

theorem ringTexts_said : Rows.RingTextsSaid :=
  OpenClaim.holds_of_wide 3 Try.f3 rfl rfl rfl rfl rfl rfl rfl ⟨rfl, rfl, rfl, rfl, rfl⟩ rfl rfl rfl rfl rfl (by kernel_rfl) Try.func3 (by kernel_rfl)
    (of_decide_eq_true (by kernel_rfl)) (by unfold Func.isWrapper; first | (rw [if_pos (by decide +kernel)]; kernel_rfl) | (rw [if_neg (by decide +kernel)]; exact ⟨rfl, rfl⟩))
    (fun os started H enc _ => ringTexts_lifted os started H enc)
#print axioms ringTexts_said
end Go.Proofs.Ytffgdmdliddlpaa
