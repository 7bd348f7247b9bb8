/- The statement LruKeeps of package lru: what is pinned is never let go, there are never more than have room, and the key that was used last is there; it holds of every int and every two lists of texts. -/
import Derived.Test.YtegmefchfphphaaLAlive
import Derived.Test.YtegmefchfphphaaLruGSI
import Derived.Test.YtegmefchfphphaaLruK
import Derived.Lib.Strings
import Derived.Test.YtegmefchfphphaaPushS
import Derived.Test.YtegmefchfphphaaBase
import Derived.OpenShut
import Derived.ChangeOld
namespace Go.Proofs.Ytegmefchfphphaa
open Go Go.RowKit Go.ChangeShapes Go.WideShapes Go.ChangeAt LruP
set_option maxRecDepth 100000
set_option maxHeartbeats 4000000
set_option linter.unusedSimpArgs false

theorem lruKeeps_walk (room : Int) (_wr : (Lit.int .i64 room).wf = true) (v1 : Value) (l1 : List (List UInt8)) (v2 : Value) (l2 : List (List UInt8)) (w : World)
    (hv1 : (∀ s ∈ l1, (s.length : Int) ≤ 9223372036854775807) ∧ Texts w v1 l1) (hv2 : (∀ s ∈ l2, (s.length : Int) ≤ 9223372036854775807) ∧ Texts w v2 l2) :
    Calls Try.prog 4 #[.int .i64 room, v1, v2] w fun e w' => e = .returned (.bool true) ∧ Below w.heap.size w w' := by
  clear _wr
  have hmx : maxLen = 9223372036854775807 := by decide
  obtain ⟨A1, c1, rfl, p1, p2, p3⟩ := hv1.2.at_
  obtain ⟨A2, c2, rfl, q1, q2, q3⟩ := hv2.2.at_
  have wf1 : ∀ s ∈ l1, wfkSI s := fun s hs => by have := hv1.1 s hs; unfold wfkSI; omega
  have wf2 : ∀ s ∈ l2, wfkSI s := fun s hs => by have := hv2.1 s hs; unfold wfkSI; omega
  have hlen1 : (l1.length : Int) ≤ 9223372036854775807 := by omega
  have hlen2 : (l2.length : Int) ≤ 9223372036854775807 := by omega
  clear hv1 hv2 hmx
  have tail : ∀ b1 b2 b3 b4, decide (room < 1) = b1 → decide (60 < room) = b2 → decide (60 < (l1.length : Int)) = b3 → decide (100 < (l2.length : Int)) = b4 → (b1 || b2 || b3 || b4) = true →
      Calls Try.prog 4 #[.int .i64 room, .slice A1 l1.length c1, .slice A2 l2.length c2] w fun e w' => e = .returned (.bool true) ∧ Below w.heap.size w w' := by
    intro b1 b2 b3 b4 d1 d2 d3 d4 hb
    clear p3 q3 wf1 wf2
    cases b1 <;> cases b2 <;> cases b3 <;> cases b4 <;> first
      | (exact absurd hb (by decide))
      | (clear hb
         go_enter Try.func4, Try.ntmps4
         go_wp2_with (go_at_call 10; refine (alive5_any _).mono ?_; rintro e w' ⟨rfl, hb⟩)
         go_ret
         exact ⟨rfl, hb⟩)
  by_cases hg : 1 ≤ room ∧ room ≤ 60 ∧ l1.length ≤ 60 ∧ l2.length ≤ 100
  case neg =>
    refine tail (decide (room < 1)) (decide (60 < room)) (decide (60 < (l1.length : Int))) (decide (100 < (l2.length : Int))) rfl rfl rfl rfl ?_
    simp only [Bool.or_eq_true, decide_eq_true_eq]
    omega
  clear tail
  obtain ⟨g1, g2, g3, g4⟩ := hg
  obtain ⟨n, rfl⟩ := Int.eq_ofNat_of_zero_le (show 0 ≤ room by omega)
  have d1 : decide ((n : Int) < 1) = false := by simp; omega
  have d2 : decide (60 < (n : Int)) = false := by simp; omega
  have d3 : decide (60 < (l1.length : Int)) = false := by simp; omega
  have d4 : decide (100 < (l2.length : Int)) = false := by simp; omega
  have P3 := Lib.hid p3
  have Q3 := Lib.hid q3
  have WF := Lib.hid (And.intro wf1 wf2)
  have HN : Hid (1 ≤ n ∧ n ≤ 60 ∧ l1.length ≤ 60 ∧ l2.length ≤ 100) := Lib.hid ⟨by omega, by omega, g3, g4⟩
  clear p3 q3 wf1 wf2 g1 g2 g3 g4
  go_enter Try.func4, Try.ntmps4
  go_wp2_with fail
  refine (lnewSI_any n w).mono ?_
  rintro e w1 ⟨cb, rfl, hH, hB⟩
  rw [show min (max (n : Int) 0) 100000 = n by have := HN.out; omega] at hH
  have H1 := Lib.hid hH
  have B1 := Lib.hid hB
  clear hH hB d1 d2 d3 d4
  go_wp2_with fail
  -- the first loop: keys are put, and pinned
  go_loopw [9, 8] (fun i u wr => ∃ (j c : Nat) (T : List (Slot (List UInt8) Int)), j ≤ l1.length ∧ j ≤ n ∧ i = .int .i64 j ∧ c ≤ j ∧ T.length ≤ j ∧ Held j T (l1.take j) ∧ TRow wr w.heap.size u (l1.take j) ∧ LruAtSI wr cb w.heap.size c n T ∧ Below w.heap.size w wr) (fun i _ _ => n - (intOf i).toNat)
  case atStart => exact ⟨0, 0, [], by omega, by omega, rfl, by omega, by simp, ⟨by simp, by simp⟩, RowAt.nil _ _ _ _, H1.out, B1.out⟩
  case round =>
  obtain ⟨j, c, T, hj, hjn, rfl, hc, hTl, hHe, hR, hH, hB⟩ := hrel
  clear H1 B1
  have hn := HN.out
  have htl : (l1.take j).length = j := by rw [List.length_take]; omega
  by_cases hlt : j < l1.length ∧ j < n
  · obtain ⟨b, o, rfl, hb, hcb⟩ := P3.out j hlt.1
    have hcr := (hB.cell (p := ⟨b, o + j, none⟩) hb).trans hcb
    have hyk := WF.out.1 l1[j] (List.getElem_mem hlt.1)
    have htk : l1.take (j + 1) = l1.take j ++ [l1[j]] := List.take_succ_eq_append_getElem hlt.1
    obtain ⟨y, hy⟩ : ∃ y, y = l1[j] := ⟨_, rfl⟩
    rw [← hy] at hcr hyk htk hcb
    have e1 : decide ((j : Int) < (l1.length : Int)) = true := by simp; omega
    have e2 : decide ((j : Int) < (n : Int)) = true := by simp; omega
    have hlt1 : j < l1.length := hlt.1
    have hlt2 : j < n := hlt.2
    have x0 : IntKind.i64.wrap ((j : Int) + 1) = (j : Int) + 1 := IntWalk.i64_in _ (by omega)
    have hX := hR.form
    rw [htl] at hX
    obtain ⟨Au, cu, rfl, -⟩ := hX
    -- the put, whatever was there
    have hput : ∃ s T', s.k = y ∧ Held j (s :: T') (l1.take j) ∧ (s :: T').length ≤ j + 1 ∧ Calls Try.prog 19 #[.pointer (some ⟨cb, 0, none⟩), .string (str y), .int .i64 j] wr fun x w' => (∃ a0 a1 a2, x = .returned (.tuple #[a0, a1, a2, .bool true])) ∧ LruAtSI w' cb w.heap.size (c + 1) n (s :: T') ∧ OutLSI w.heap.size wr w' := by
      rcases cut_key T y with ⟨A, s, B, rfl, hs⟩ | hk
      · refine ⟨⟨s.k, j, s.pins⟩, A ++ B, hs, hHe.put _, by simp at hTl ⊢; omega, ?_⟩
        rw [← hs]
        exact (lputSI_in cb w.heap.size c n A B s j wr hH (by omega) hB.size).mono fun x w' h => ⟨⟨_, _, _, h.1⟩, h.2⟩
      · refine ⟨⟨y, j, 0⟩, T, rfl, hHe.room (by omega) _ _, by simp; omega, ?_⟩
        exact (lputSI_room cb w.heap.size c n T y j wr hH hk hyk (by omega) (by omega) hB.size).mono fun x w' h => ⟨⟨_, _, _, h.1⟩, h.2⟩
    obtain ⟨s, T', hs, hHe', hTl', hput⟩ := hput
    have HP := Lib.hid hput
    have HX := Lib.hid (And.intro hs (And.intro hHe' (And.intro hTl' (And.intro hc (And.intro hR (And.intro hB (And.intro hb (And.intro hcb htk))))))))
    clear hput hs hHe' hTl' hc hR hB hH hHe hTl hyk htk hcb hb hy htl hlt hn hj hjn
    go_wp2_with fail
    refine HP.out.mono ?_
    rintro e w3 ⟨⟨a0, a1, a2, rfl⟩, hH3, hO3⟩
    have hpin := lpinSI_in cb w.heap.size (c + 1) n [] T' s w3 hH3 (by have := (HX.out.2.1.pins s List.mem_cons_self).2; have := HN.out; omega) (Nat.le_trans HX.out.2.2.2.2.2.1.size hO3.2.size)
    have hB3 := HX.out.2.2.2.2.2.1.trans hO3.2
    have hR3 := HX.out.2.2.2.2.1.shyLSI hO3.1 (by decide) (by decide)
    have hcr3 := (hB3.cell (p := ⟨b, o + j, none⟩) HX.out.2.2.2.2.2.2.1).trans HX.out.2.2.2.2.2.2.2.1
    rw [HX.out.1] at hpin
    have HPI := Lib.hid hpin
    have HB3 := Lib.hid hB3
    have HR3 := Lib.hid hR3
    clear hpin hB3 hR3 hH3 hO3 hcr HP
    go_wp2_with fail
    refine HPI.out.mono ?_
    rintro e w4 ⟨rfl, hH4, hO4⟩
    have hB4 := HB3.out.trans hO4.2
    have hR4 := HR3.out.shyLSI hO4.1 (by decide) (by decide)
    have hcr4 := (hB4.cell (p := ⟨b, o + j, none⟩) HX.out.2.2.2.2.2.2.1).trans HX.out.2.2.2.2.2.2.2.1
    have htl : (l1.take j).length = j := by rw [List.length_take]; omega
    obtain ⟨A3, c3, w5, hrun, hR5, hB5, hM5, -, -⟩ := pushS_one hR4 y hB4.size (by have := HN.out; omega) 34
    have hH5 := hH4.row hR4 hM5 (by decide) (by decide) (by decide)
    rw [htl] at hrun hR5
    rw [← HX.out.2.2.2.2.2.2.2.2] at hR5
    have hHe5 := HX.out.2.1.pin
    rw [HX.out.1, ← HX.out.2.2.2.2.2.2.2.2] at hHe5
    have HRUN := Lib.hid hrun
    have HY := Lib.hid (And.intro hR5 (And.intro hH5 (And.intro (hB4.trans hB5) hHe5)))
    clear hB4 hR4 hH4 hO4 hrun hR5 hB5 hM5 hH5 hHe5 htl hcr3 HPI HR3
    go_wp2_with (at_builtin; refine wpList_append_eq rfl (.tmp 81) (.tmp 86) 34 34 rfl _ _ _ rfl rfl HRUN.out ?_)
    go_roundw
    case rel => exact ⟨j + 1, c + 1, _, by omega, by omega, by go_num, by have := HX.out.2.2.2.1; omega, by have := HX.out.2.2.1; simp at this ⊢; exact this, by rw [Int.natCast_succ]; exact HY.out.2.2.2, HY.out.1, HY.out.2.1, HY.out.2.2.1⟩
    case measure => simp [intOf]; omega
  · have hcase : (decide ((j : Int) < (l1.length : Int)) = false ∧ ¬ j < l1.length) ∨ (decide ((j : Int) < (l1.length : Int)) = true ∧ j < l1.length ∧ decide ((j : Int) < (n : Int)) = false ∧ ¬ j < n) := by
      by_cases h1 : j < l1.length
      · refine .inr ⟨by simp; omega, h1, ?_, fun h2 => hlt ⟨h1, h2⟩⟩
        have : ¬ j < n := fun h2 => hlt ⟨h1, h2⟩
        simp; omega
      · exact .inl ⟨by simp; omega, h1⟩
    have hX := hR.form
    rw [htl] at hX
    obtain ⟨Au, cu, rfl, -⟩ := hX
    have hj100 : j ≤ 60 := by omega
    have hl2 : (l2.length : Int) ≤ 100 := by omega
    have HHe := Lib.hid hHe
    have HR := Lib.hid hR
    have HH := Lib.hid hH
    have HB := Lib.hid hB
    have HC := Lib.hid (And.intro hc (And.intro hj100 htl))
    clear hHe hR hH hB hc hTl hj hjn htl hn hj100 hlt
    rcases hcase with ⟨e1, n1⟩ | ⟨e1, n1, e2, n2⟩
    all_goals
      go_wp2_with fail
      -- the second loop: puts
      go_loopw [14] (fun i wr => ∃ (k c : Nat) (T : List (Slot (List UInt8) Int)), k ≤ l2.length ∧ i = .int .i64 k ∧ c ≤ j + k ∧ Held j T (l1.take j) ∧ TRow wr w.heap.size (.slice Au j cu) (l1.take j) ∧ LruAtSI wr cb w.heap.size c n T ∧ Below w.heap.size w wr) (fun i _ => l2.length - (intOf i).toNat)
      case atStart => exact ⟨0, c, T, by omega, rfl, HC.out.1, HHe.out, HR.out, HH.out, HB.out⟩
      case round =>
      clear HHe HR HH HB
      obtain ⟨k, c, T, hk, rfl, hc, hHe, hR, hH, hB⟩ := hrel
      rcases Nat.lt_or_ge k l2.length with hlt | hge
      · obtain ⟨b, o, rfl, hb, hcb⟩ := Q3.out k hlt
        have hcr := (hB.cell (p := ⟨b, o + k, none⟩) hb).trans hcb
        have hyk := WF.out.2 l2[k] (List.getElem_mem hlt)
        obtain ⟨y, hy⟩ : ∃ y, y = l2[k] := ⟨_, rfl⟩
        rw [← hy] at hcr hyk hcb
        have e3 : decide ((k : Int) < (l2.length : Int)) = true := by simp; omega
        have x0 : IntKind.i64.wrap ((k : Int) + 1) = (k : Int) + 1 := IntWalk.i64_in _ (by omega)
        have hcc : c < 1000000 := by have := HC.out; have := HN.out; omega
        have hplay : ∃ (was goes ok : Bool) (kk : List UInt8) (a0 a1 a2 : Value) (T' : List (Slot (List UInt8) Int)) (c' : Nat),
            ((was = true ∧ goes = false ∧ ok = true) ∨ (was = false ∧ goes = false ∧ ok = true) ∨ (was = false ∧ goes = true ∧ ok = true) ∨ (was = false ∧ goes = false ∧ ok = false)) ∧
            c' ≤ c + 1 ∧ Held j T' (l1.take j) ∧ (goes = true → kk ≠ y) ∧
            (Calls Try.prog 21 #[.pointer (some ⟨cb, 0, none⟩), .string (str y)] wr fun x w' => x = .returned (.tuple #[a0, .bool was]) ∧ Below wr.heap.size wr w') ∧
            (∀ w1, LruAtSI w1 cb w.heap.size c n T → w.heap.size ≤ w1.heap.size → Calls Try.prog 19 #[.pointer (some ⟨cb, 0, none⟩), .string (str y), .int .i64 k] w1 fun x w' => x = .returned (.tuple #[.string (str kk), a1, .bool goes, .bool ok]) ∧ LruAtSI w' cb w.heap.size c' n T' ∧ OutLSI w.heap.size w1 w') ∧
            (∀ w1, LruAtSI w1 cb w.heap.size c' n T' → Calls Try.prog 21 #[.pointer (some ⟨cb, 0, none⟩), .string (str y)] w1 fun x w' => x = .returned (.tuple #[a2, .bool ok]) ∧ Below w1.heap.size w1 w') := by
          rcases cut_key T y with ⟨A, s, B, rfl, hs⟩ | hno
          · refine ⟨true, false, true, [], .int .i64 s.v, .int .i64 0, .int .i64 k, ⟨s.k, k, s.pins⟩ :: (A ++ B), c + 1, .inl ⟨rfl, rfl, rfl⟩, Nat.le_refl _, hHe.put _, by simp, ?_, fun w1 h1 h2 => ?_, fun w1 h1 => ?_⟩
            · rw [← hs]; exact lpeekSI_in cb w.heap.size c n A B s wr hH
            · rw [← hs]; exact lputSI_in cb w.heap.size c n A B s k w1 h1 hcc h2
            · rw [← hs]; exact lpeekSI_in cb w.heap.size (c + 1) n [] (A ++ B) ⟨s.k, k, s.pins⟩ w1 h1
          · have hpk := lpeekSI_out cb w.heap.size c n T y wr hH hno hyk
            by_cases hroom : (T.length : Int) < n
            · refine ⟨false, false, true, [], .int .i64 0, .int .i64 0, .int .i64 k, ⟨y, k, 0⟩ :: T, c + 1, .inr (.inl ⟨rfl, rfl, rfl⟩), Nat.le_refl _, hHe.room (by omega) _ _, by simp, hpk, fun w1 h1 h2 => ?_, fun w1 h1 => ?_⟩
              · exact lputSI_room cb w.heap.size c n T y k w1 h1 hno hyk hroom hcc h2
              · exact lpeekSI_in cb w.heap.size (c + 1) n [] T ⟨y, k, 0⟩ w1 h1
            · rcases cut_free T (fun s hs => (hHe.pins s hs).1) with ⟨A, s, B, rfl, hs0, hfB⟩ | hall
              · refine ⟨false, true, true, s.k, .int .i64 0, .int .i64 s.v, .int .i64 k, ⟨y, k, 0⟩ :: (A ++ B), c + 1, .inr (.inr (.inl ⟨rfl, rfl, rfl⟩)), Nat.le_refl _, (hHe.goes hs0).room (by omega) _ _, fun _ => hno s (by simp), hpk, fun w1 h1 h2 => ?_, fun w1 h1 => ?_⟩
                · exact lputSI_goes cb w.heap.size c n A B s y k w1 h1 hno hyk (by omega) hs0 hfB hcc h2
                · exact lpeekSI_in cb w.heap.size (c + 1) n [] (A ++ B) ⟨y, k, 0⟩ w1 h1
              · refine ⟨false, false, false, [], .int .i64 0, .int .i64 0, .int .i64 0, T, c, .inr (.inr (.inr ⟨rfl, rfl, rfl⟩)), by omega, hHe, by simp, hpk, fun w1 h1 h2 => ?_, fun w1 h1 => ?_⟩
                · exact lputSI_held cb w.heap.size c n T y k w1 h1 hno hyk (by omega) hall h2
                · exact lpeekSI_out cb w.heap.size c n T y w1 h1 hno hyk
        obtain ⟨was, goes, ok, kk, a0, a1, a2, T', c', hbool, hc', hHe', hkk, hp1, hp2, hp3⟩ := hplay
        have HP1 := Lib.hid hp1
        have HP2 := Lib.hid hp2
        have HP3 := Lib.hid hp3
        have HX := Lib.hid (And.intro hR (And.intro hH (And.intro hB (And.intro hHe' (And.intro hc' (And.intro hc (And.intro hb hcb)))))))
        have HKK := Lib.hid hkk
        have e7 : goes = true → ((str kk).toList == (str y).toList) = false := fun h => by
          rw [Lib.toList_data, Lib.toList_data, str_list, str_list]
          exact beq_eq_false_iff_ne.2 (hkk h)
        clear hR hH hB hHe hHe' hc hc' hk hp1 hp2 hp3 hkk hyk hy hcb hb
        rcases hbool with ⟨rfl, rfl, rfl⟩ | ⟨rfl, rfl, rfl⟩ | ⟨rfl, rfl, rfl⟩ | ⟨rfl, rfl, rfl⟩
        all_goals
          go_wp2_with fail
          refine HP1.out.mono ?_
          rintro e w3 ⟨rfl, hB3⟩
          have hB3' := HX.out.2.2.1.trans (hB3.mono HX.out.2.2.1.size)
          have hcr3 := (hB3'.cell (p := ⟨b, o + k, none⟩) HX.out.2.2.2.2.2.2.1).trans HX.out.2.2.2.2.2.2.2
          have H3 := Lib.hid (HX.out.2.1.below hB3)
          have R3 := Lib.hid (HX.out.1.below hB3)
          have B3 := Lib.hid hB3'
          clear hB3 hB3' hcr
          go_wp2_with fail
          refine (HP2.out w3 H3.out B3.out.size).mono ?_
          rintro e w4 ⟨rfl, hH4, hO4⟩
          have hB4 := B3.out.trans hO4.2
          have hcr4 := (hB4.cell (p := ⟨b, o + k, none⟩) HX.out.2.2.2.2.2.2.1).trans HX.out.2.2.2.2.2.2.2
          have H4 := Lib.hid hH4
          have R4 := Lib.hid (R3.out.shyLSI hO4.1 (by decide) (by decide))
          have B4 := Lib.hid hB4
          clear hH4 hO4 hB4 hcr3
          go_wp2_with fail
          refine (HP3.out w4 H4.out).mono ?_
          rintro e w5 ⟨rfl, hB5⟩
          have hB5' := B4.out.trans (hB5.mono B4.out.size)
          have hcr5 := (hB5'.cell (p := ⟨b, o + k, none⟩) HX.out.2.2.2.2.2.2.1).trans HX.out.2.2.2.2.2.2.2
          have H5 := Lib.hid (H4.out.below hB5)
          have R5 := Lib.hid (R4.out.below hB5)
          have B5 := Lib.hid hB5'
          clear hB5 hB5' hcr4
          go_wp2_with fail
          refine (llenSI_any cb w.heap.size c' n T' w5 H5.out).mono ?_
          rintro e w6 ⟨rfl, rfl⟩
          have hle := H5.out.le.1
          have e4 : decide ((T'.length : Int) > (n : Int)) = false := decide_eq_false (by omega)
          have e5 : decide ((n : Int) < (T'.length : Int)) = false := decide_eq_false (by omega)
          have e6 : ¬ n < T'.length := by omega
          clear hle
          try simp only [forall_const] at e7
          go_wp2_with fail
          go_roundw
          case rel => exact ⟨k + 1, c', T', by omega, by go_num, by have := HX.out.2.2.2.2.1; have := HX.out.2.2.2.2.2.1; omega, HX.out.2.2.2.1, R5.out, H5.out, B5.out⟩
          case measure => simp [intOf]; omega
      · have e3 : decide ((k : Int) < (l2.length : Int)) = false := by simp; omega
        have hnk : ¬ k < l2.length := Nat.not_lt.2 hge
        have HX := Lib.hid (And.intro hR (And.intro hH (And.intro hB hHe)))
        clear hR hH hB hHe hc hk hge
        go_wp2_with fail
        -- the last loop: what is held is there
        go_loopw [23] (fun i wr => ∃ t : Nat, t ≤ j ∧ i = .int .i64 t ∧ TRow wr w.heap.size (.slice Au j cu) (l1.take j) ∧ LruAtSI wr cb w.heap.size c n T ∧ Below w.heap.size w wr) (fun i _ => j - (intOf i).toNat)
        case atStart => exact ⟨0, by omega, rfl, HX.out.1, HX.out.2.1, HX.out.2.2.1⟩
        case round =>
          obtain ⟨t, ht, rfl, hR, hH, hB⟩ := hrel
          have hn := HN.out
          have hj60 := HC.out.2.1
          rcases Nat.lt_or_ge t j with hlt | hge
          · have e4 : decide ((t : Int) < (j : Int)) = true := by simp; omega
            have x1 : IntKind.i64.wrap ((t : Int) + 1) = (t : Int) + 1 := IntWalk.i64_in _ (by omega)
            obtain ⟨A7, c7, e7, -, -, h7⟩ := rowS_at hR
            have htl := HC.out.2.2
            obtain ⟨b7, o7, eA, hc7⟩ := h7 t (by rw [htl]; exact hlt)
            simp only [Value.slice.injEq] at e7
            obtain ⟨rfl, -, rfl⟩ := e7
            obtain ⟨s, hs, hk, -⟩ := HX.out.2.2.2.held ((l1.take j)[t]'(by rw [htl]; exact hlt)) (List.getElem_mem _)
            rw [← hk] at hc7
            subst eA
            obtain ⟨A, B, hT⟩ := List.append_of_mem hs
            rw [hT] at hH
            have HP := Lib.hid (lpeekSI_in cb w.heap.size c n A B s wr hH)
            have HY := Lib.hid (And.intro hR (And.intro hH (And.intro hB hT)))
            clear hR hH hB hT hs hk h7 htl hn hj60 ht
            go_wp2_with fail
            refine HP.out.mono ?_
            rintro e w3 ⟨rfl, hB3⟩
            have HZ := Lib.hid (And.intro (HY.out.1.below hB3) (And.intro (HY.out.2.1.below hB3) (HY.out.2.2.1.trans (hB3.mono HY.out.2.2.1.size))))
            clear hB3 hc7
            go_wp2_with fail
            go_roundw
            case rel => exact ⟨t + 1, by omega, by go_num, HZ.out.1, by rw [HY.out.2.2.2]; exact HZ.out.2.1, HZ.out.2.2⟩
            case measure => simp [intOf]; omega
          · have e4 : decide ((t : Int) < (j : Int)) = false := by simp; omega
            have hnt : ¬ t < j := Nat.not_lt.2 hge
            have HB := Lib.hid hB
            clear hR hH hB hn hj60 ht hge
            go_wp2_with fail
            refine (alive5_any _).mono ?_
            rintro e w4 ⟨rfl, hb⟩
            have B4 := Lib.hid (HB.out.trans (hb.mono HB.out.size))
            clear hb
            go_wp2
            go_ret
            exact ⟨rfl, B4.out⟩

set_option maxRecDepth 100000 in
theorem lruKeeps_lifted (os : Os) (started : os.Started) (H : Type) (enc : TypeId × Value → H) :
    ReturnsInHanded {} Try.checked os 4 .any (Rows.lruKeepsSpec.pre6 enc Try.prog Try.f4 Rows.lruKeepsRow.domain false) (Rows.lruKeepsSpec.post enc Try.prog Try.f4 false true false false) := by
  refine returnsInHanded_of_change (C := Try.checked) own started (by kernel_rfl) Try.func4
    (ChangeSpec.witness6 (enc := enc) (C := Try.checked) false ⟨#[], #[.int .i64 0, .slice none 0 0, .slice none 0 0], []⟩ 8 (by kernel_rfl) (by kernel_rfl) (by kernel_rfl) (by kernel_rfl)) ?_
  intro W base args ds gs before hval0 hW _ _
  have hval : ∀ (j : Nat) t v, Try.f4.params[j]? = some t → args[j]? = some v → Value.okWide Try.prog W .any base t v := hval0
  have hW' := hW
  obtain ⟨p, q, hA0, hV, rfl, hfz, hnd⟩ := hW
  have hA : DataW.TrodAll enc Try.prog W 0 (fun _ => true) true Try.f4.params.toList args.toList ds p := hA0
  rw [Try.params4] at hA hval
  obtain ⟨v0, vs0, d0, ds0, p0, q0, hargs, rfl, rfl, h0, r0⟩ := trodAll_cons hA
  obtain ⟨v1, vs1, d1, ds1, p1, q1, rfl, rfl, rfl, h1, r1⟩ := trodAll_cons r0
  obtain ⟨v2, vs2, d2, ds2, p2, q2, rfl, rfl, rfl, h2, r2⟩ := trodAll_cons r1
  obtain ⟨rfl, rfl, rfl⟩ := trodAll_nil r2
  obtain rfl : args = #[v0, v1, v2] := by cases args; simp_all
  obtain ⟨rfl, rfl⟩ := trodVars_none hV
  have k0 := h0
  have lt0 : ∀ x ∈ p0, x.block < W.heap.size := by obtain ⟨m, hm⟩ := k0; exact DataW.trod_lt m _ _ _ hm
  have k1 := h1
  have lt1 : ∀ x ∈ p1, x.block < W.heap.size := by obtain ⟨m, hm⟩ := k1; exact DataW.trod_lt m _ _ _ hm
  have k2 := h2
  have lt2 : ∀ x ∈ p2, x.block < W.heap.size := by obtain ⟨m, hm⟩ := k2; exact DataW.trod_lt m _ _ _ hm
  obtain ⟨a0, rfl, rfl, rfl, w0⟩ := open_int Try.underlying3 (hval 0 3 v0 rfl rfl) h0
  obtain ⟨a1, w1⟩ := texts_open (hval 1 34 v1 rfl rfl) k1
  obtain ⟨a2, w2⟩ := texts_open (hval 2 34 v2 rfl rfl) k2
  clear hA0 hval0
  refine (lruKeeps_walk a0 w0 v1 a1 v2 a2 W w1 w2).mono fun e W' ⟨he, bel⟩ => ?_
  subst he
  exact ⟨_, rfl, _, _, _, [], _, [], hW', trodAll_mk1 (shut_bool Try.underlying4 _), (trodAll_cons_mk (Below.trod laidOut (by kernel_rfl) (of_decide_eq_true (by kernel_rfl)) k0 bel lt0) (trodAll_cons_mk (Below.trod laidOut (by kernel_rfl) (of_decide_eq_true (by kernel_rfl)) k1 bel lt1) (trodAll_cons_mk (Below.trod laidOut (by kernel_rfl) (of_decide_eq_true (by kernel_rfl)) k2 bel lt2) trodAll_mk0))), rfl, bel.frame _, fun h => by cases h⟩

theorem lruKeeps_said : Rows.LruKeepsSaid :=
  OpenClaim.holds_of_wide 4 Try.f4 rfl rfl rfl rfl rfl rfl rfl ⟨rfl, rfl, rfl, rfl, rfl⟩ rfl rfl rfl rfl rfl (by kernel_rfl) Try.func4 (by kernel_rfl)
    (of_decide_eq_true (by kernel_rfl)) (by unfold Func.isWrapper; first | (rw [if_pos (by decide +kernel)]; kernel_rfl) | (rw [if_neg (by decide +kernel)]; exact ⟨rfl, rfl⟩))
    (fun os started H enc _ => lruKeeps_lifted os started H enc)
#print axioms lruKeeps_said
end Go.Proofs.Ytegmefchfphphaa
