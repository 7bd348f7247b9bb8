/- The statement LruOrder of package lru: the key that was not used for the longest time, and is not pinned, goes first; it holds of every int and every list of ints. -/
import Derived.Test.YtegmefchfphphaaLAlive
import Derived.Test.YtegmefchfphphaaLruT
import Derived.Test.YtegmefchfphphaaInts
import Derived.Test.YtegmefchfphphaaBase
import Derived.OpenShut
import Derived.ChangeOld
namespace Go.Proofs.Ytegmefchfphphaa
open Go Go.RowKit Go.ChangeShapes Go.WideShapes Go.ChangeAt LruP
set_option maxRecDepth 100000
set_option maxHeartbeats 4000000
set_option linter.unusedSimpArgs false

theorem lruOrder_walk (room : Int) (_wr : (Lit.int .i64 room).wf = true) (v : Value) (l : List Int) (w : World) (hv : (∀ x ∈ l, i64ok x) ∧ Ints w v l) :
    Calls Try.prog 5 #[.int .i64 room, v] w fun e w' => e = .returned (.bool true) ∧ Below w.heap.size w w' := by
  clear _wr
  obtain ⟨A, cap, rfl, h1, h2, h3⟩ := hv.2.one_
  have hok := hv.1
  clear hv
  have hlen : (l.length : Int) ≤ 9223372036854775807 := by omega
  have tail : ∀ b1 b2 b3, decide (room < 1) = b1 → decide (20 < room) = b2 → decide (100 < (l.length : Int)) = b3 → (b1 || b2 || b3) = true →
      Calls Try.prog 5 #[.int .i64 room, .slice A l.length cap] w fun e w' => e = .returned (.bool true) ∧ Below w.heap.size w w' := by
    intro b1 b2 b3 d1 d2 d3 hb
    clear h3 hok
    cases b1 <;> cases b2 <;> cases b3 <;> first
      | (exact absurd hb (by decide))
      | (clear hb
         go_enter Try.func5, Try.ntmps5
         go_wp2_with (go_at_call 10; refine (alive5_any _).mono ?_; rintro e w' ⟨rfl, hb⟩)
         go_ret
         exact ⟨rfl, hb⟩)
  by_cases hg : 1 ≤ room ∧ room ≤ 20 ∧ l.length ≤ 100
  case neg =>
    refine tail (decide (room < 1)) (decide (20 < room)) (decide (100 < (l.length : Int))) rfl rfl rfl ?_
    simp only [Bool.or_eq_true, decide_eq_true_eq]
    omega
  clear tail
  obtain ⟨g1, g2, g3⟩ := hg
  obtain ⟨n, rfl⟩ := Int.eq_ofNat_of_zero_le (show 0 ≤ room by omega)
  have d1 : decide ((n : Int) < 1) = false := by simp; omega
  have d2 : decide (20 < (n : Int)) = false := by simp; omega
  have d3 : decide (100 < (l.length : Int)) = false := by simp; omega
  have H3 := Lib.hid h3
  have HOK := Lib.hid hok
  have HN : Hid (1 ≤ n ∧ n ≤ 20 ∧ l.length ≤ 100) := Lib.hid ⟨by omega, by omega, g3⟩
  have wf : ∀ k : Int, 0 ≤ k → k ≤ 10000 → wfkIS k := fun k h1 h2 => by unfold wfkIS; omega
  have WF := Lib.hid wf
  clear h3 hok g1 g2 g3 wf
  go_enter Try.func5, Try.ntmps5
  go_wp2_with fail
  refine (lnewIS_any n w).mono ?_
  rintro e w1 ⟨cb, rfl, hH, hB⟩
  rw [show min (max (n : Int) 0) 100000 = n by have := HN.out; omega] at hH
  have H1 := Lib.hid hH
  have B1 := Lib.hid hB
  clear hH hB d1 d2 d3
  go_wp2_with fail
  -- the first loop: keys are put
  go_loopw [6] (fun i wr => ∃ j : Nat, j ≤ n ∧ i = .int .i64 j ∧ LruAtIS wr cb w.heap.size j n (Tx (ups j)) ∧ Below w.heap.size w wr) (fun i _ => n - (intOf i).toNat)
  case atStart => exact ⟨0, by omega, rfl, H1.out, B1.out⟩
  case round =>
  obtain ⟨j, hj, rfl, hH, hB⟩ := hrel
  have HH := Lib.hid hH
  have HB := Lib.hid hB
  clear hH hB H1 B1
  have hn := HN.out
  rcases Nat.lt_or_ge j n with hlt | hge
  · have d1 : decide ((j : Int) < (n : Int)) = true := by simp; omega
    have x0 : IntKind.i64.wrap ((j : Int) + 1) = (j : Int) + 1 := IntWalk.i64_in _ (by omega)
    have HJ := Lib.hid hlt
    clear hlt hj hn
    go_wp2_with fail
    refine (lputIS_room cb w.heap.size j n (Tx (ups j)) j [120] wr HH.out (fun s hs => by have := (mem_ups j s.k).1 (Tx_keys hs); omega) (WF.out _ (by omega) (by have := HJ.out; have := HN.out; omega)) (by rw [Tx_length, ups_length]; have := HJ.out; omega) (by have := HJ.out; have := HN.out; omega) HB.out.size).mono ?_
    rintro e w3 ⟨rfl, hH3, hO3⟩
    have H3 := Lib.hid hH3
    have B3 := Lib.hid (HB.out.trans hO3.2)
    clear hH3 hO3
    go_wp2_with fail
    go_roundw
    case rel => exact ⟨j + 1, by have := HJ.out; omega, by go_num, by rw [ups_succ, Tx_snoc]; exact H3.out, B3.out⟩
    case measure => simp [intOf]; have := HJ.out; omega
  obtain rfl : j = n := by omega
  have d1 : decide ((j : Int) < (j : Int)) = false := by simp
  clear hge hj hn
  go_wp2_with fail
  -- the second loop: their list
  go_loopw [8, 7] (fun i u wr => ∃ k : Nat, k ≤ j ∧ i = .int .i64 k ∧ IRow wr w.heap.size u (ups k) ∧ LruAtIS wr cb w.heap.size j j (Tx (ups j)) ∧ Below w.heap.size w wr) (fun i _ _ => j - (intOf i).toNat)
  case atStart => exact ⟨0, by omega, rfl, RowAt.nil _ _ _ _, HH.out, HB.out⟩
  case round =>
  obtain ⟨k, hk, rfl, hR, hH, hB⟩ := hrel
  clear HH HB
  have hn := HN.out
  rcases Nat.lt_or_ge k j with hlt | hge
  · have d2 : decide ((k : Int) < (j : Int)) = true := by simp; omega
    have x0 : IntKind.i64.wrap ((k : Int) + 1) = (k : Int) + 1 := IntWalk.i64_in _ (by omega)
    obtain ⟨A3, c3, w3, hrun, hR3, hB3, hM3, -, -⟩ := pushI_one hR (k : Int) hB.size (by rw [ups_length]; omega) 30
    have hH3 := hH.row hR hM3 (by decide) (by decide) (by decide)
    have hX := hR.form
    rw [ups_length] at hX hrun hR3
    obtain ⟨Au, cu, rfl, -⟩ := hX
    have HR3 := Lib.hid hR3
    have HH3 := Lib.hid hH3
    have HB3 := Lib.hid (hB.trans hB3)
    have HRUN := Lib.hid hrun
    have HK := Lib.hid hlt
    clear hR hH hB hrun hR3 hB3 hM3 hH3 hlt hk hn
    go_wp2_with (at_builtin; refine wpList_append_eq rfl (.tmp 49) (.tmp 51) 30 30 rfl _ _ _ rfl rfl HRUN.out ?_)
    go_roundw
    case rel => exact ⟨k + 1, by have := HK.out; omega, by go_num, by rw [ups_succ]; exact HR3.out, HH3.out, HB3.out⟩
    case measure => simp [intOf]; have := HK.out; omega
  obtain rfl : k = j := by omega
  have hX := hR.form
  rw [ups_length] at hX
  obtain ⟨Au, cu, rfl, -⟩ := hX
  have HR := Lib.hid hR
  have HH := Lib.hid hH
  have HB := Lib.hid hB
  have d2 := d1
  clear hge hk hn hR hH hB
  go_wp2_with fail
  -- the third loop: uses
  go_loopw [9, 7] (fun i u wr => ∃ (q c : Nat) (la : List Int), q ≤ l.length ∧ i = .int .i64 q ∧ c ≤ k + q ∧ la.Perm (ups k) ∧ IRow wr w.heap.size u la ∧ LruAtIS wr cb w.heap.size c k (Tx la) ∧ Below w.heap.size w wr) (fun i _ _ => l.length - (intOf i).toNat)
  case atStart => exact ⟨0, k, ups k, by omega, rfl, by omega, List.Perm.refl _, HR.out, HH.out, HB.out⟩
  case round =>
  obtain ⟨q, c, la, hq, rfl, hc, hP, hR, hH, hB⟩ := hrel
  clear HR HH HB
  have hn := HN.out
  have hlal : la.length = k := by rw [hP.length_eq, ups_length]
  have hmem : ∀ x, x ∈ la ↔ 0 ≤ x ∧ x < k := fun x => by rw [hP.mem_iff, mem_ups]
  have hnd : la.Nodup := hP.nodup_iff.2 (ups_nodup k)
  have hl100 : (l.length : Int) ≤ 100 := by omega
  rcases Nat.lt_or_ge q l.length with hlt | hge
  · obtain ⟨b, o, rfl, hb, hcb⟩ := H3.out q hlt
    have hcr := (hB.cell (p := ⟨b, o + q, none⟩) hb).trans hcb
    have hyk := HOK.out l[q] (List.getElem_mem hlt)
    obtain ⟨y, hy⟩ : ∃ y, y = l[q] := ⟨_, rfl⟩
    rw [← hy] at hcr hyk
    have d3 : decide ((q : Int) < (l.length : Int)) = true := by simp; omega
    have x0 : IntKind.i64.wrap ((q : Int) + 1) = (q : Int) + 1 := IntWalk.i64_in _ (by omega)
    have HQ := Lib.hid hlt
    have hX := hR.form
    rw [hlal] at hX
    obtain ⟨Au, cu, rfl, -⟩ := hX
    clear hcb hy hlt hq
    by_cases hin : 0 ≤ y ∧ y < k
    · obtain ⟨P, Q, hla, hT, hfil⟩ := Tx_cut ((hmem y).2 hin) hnd
      have e1 : decide (y ≥ 0) = true := decide_eq_true hin.1
      have e1' : decide (0 ≤ y) = true := e1
      have e2 : decide (y < (k : Int)) = true := decide_eq_true hin.2
      rw [hT] at hH
      have HR := Lib.hid hR
      have HH := Lib.hid hH
      have HB := Lib.hid hB
      have HF := Lib.hid (And.intro hla (And.intro hfil (And.intro hlal (And.intro hc (And.intro hnd hP)))))
      clear hR hH hB hc hP hlal hmem hnd hn hyk hin hla hT hfil
      go_wp2_with fail
      refine (lgetIS_in cb w.heap.size c k (Tx Q) (Tx P) (mkx y) _ HH.out (by have := HF.out; have := HN.out; have := HQ.out; omega) HB.out.size).mono ?_
      rintro e w4 ⟨rfl, hH4, hO4⟩
      have hR4 := HR.out.shyLIS hO4.1 (by decide) (by decide)
      have hB4 := HB.out.trans hO4.2
      have hT4 : mkx y :: (Tx Q ++ Tx P) = Tx (P ++ Q ++ [y]) := by simp [Tx]
      rw [hT4] at hH4
      have HR4 := Lib.hid hR4
      have HH4 := Lib.hid hH4
      have HB4 := Lib.hid hB4
      clear hR4 hH4 hB4 hO4 hT4 hcr HR HH HB
      go_wp2_with fail
      obtain ⟨B4, hB4s⟩ : ∃ B4, B4 = w4.heap.size := ⟨_, rfl⟩
      have HBS := Lib.hid hB4s
      clear hB4s
      go_loopw [14, 13] (fun i u wr => ∃ t : Nat, t ≤ k ∧ i = .int .i64 t ∧ IRow wr B4 u ((la.take t).filter (· ≠ y)) ∧ IRow wr w.heap.size (.slice Au k cu) la ∧ LruAtIS wr cb w.heap.size (c + 1) k (Tx (P ++ Q ++ [y])) ∧ Below w.heap.size w wr ∧ B4 ≤ wr.heap.size) (fun i _ _ => k - (intOf i).toNat)
      case atStart => exact ⟨0, by omega, rfl, RowAt.nil _ _ _ _, HR4.out, HH4.out, HB4.out, by rw [HBS.out]; exact Nat.le_refl _⟩
      case round =>
        obtain ⟨t, ht, rfl, hU, hR, hH, hB, hBs⟩ := hrel
        have hlal := HF.out.2.2.1
        have hblk : ∀ b1, (Value.slice Au k cu).ownBlock = some b1 → b1 < B4 := fun b1 hb1 => by have := (HR4.out.lt b1 hb1).2; rw [HBS.out]; exact this
        rcases Nat.lt_or_ge t k with hlt | hge
        · have d4 : decide ((t : Int) < (k : Int)) = true := by simp; omega
          have x1 : IntKind.i64.wrap ((t : Int) + 1) = (t : Int) + 1 := IntWalk.i64_in _ (by have := HN.out; omega)
          obtain ⟨A7, c7, e7, -, -, h7⟩ := rowI_at hR
          obtain ⟨b7, o7, eA, hc7⟩ := h7 t (by rw [hlal]; exact hlt)
          simp only [Value.slice.injEq] at e7
          obtain ⟨rfl, -, rfl⟩ := e7
          obtain ⟨x, hx⟩ : ∃ x, x = la[t]'(by rw [hlal]; exact hlt) := ⟨_, rfl⟩
          rw [← hx] at hc7
          subst eA
          have htk : la.take (t + 1) = la.take t ++ [x] := by rw [hx]; exact List.take_succ_eq_append_getElem (by rw [hlal]; exact hlt)
          obtain ⟨Uu, cuu, eU, -⟩ := hU.form
          by_cases hxy : x = y
          · have e3 : (y != y) = false := by simp
            rw [hxy] at hc7
            have e4 : (la.take (t + 1)).filter (· ≠ y) = (la.take t).filter (· ≠ y) := by rw [htk, List.filter_append]; simp [hxy]
            have HU := Lib.hid hU
            have HX := Lib.hid (And.intro hR (And.intro hH (And.intro hB (And.intro hBs (And.intro hlt e4)))))
            subst eU
            clear hU hR hH hB hBs e4 hxy hx htk ht hlal hblk h7
            go_wp2_with fail
            go_roundw
            case rel => exact ⟨t + 1, by have := HX.out.2.2.2.2.1; omega, by go_num, by rw [HX.out.2.2.2.2.2]; exact HU.out, HX.out.1, HX.out.2.1, HX.out.2.2.1, HX.out.2.2.2.1⟩
            case measure => simp [intOf]; have := HX.out.2.2.2.2.1; omega
          · have e3 : (x != y) = true := by simp [hxy]
            have e4 : (la.take (t + 1)).filter (· ≠ y) = (la.take t).filter (· ≠ y) ++ [x] := by rw [htk, List.filter_append]; simp [hxy]
            have hul : ((la.take t).filter (· ≠ y)).length ≤ 1000000 := by
              have h1 := List.length_filter_le (· ≠ y) (la.take t)
              rw [List.length_take] at h1
              have := HN.out
              omega
            obtain ⟨A3, c3, w3, hrun, hR3, hB3, hM3, -, -⟩ := pushI_one hU x hBs hul 30
            have hH3 := hH.row hU hM3 (by decide) (by decide) (by decide)
            have hRR : IRow w3 w.heap.size (.slice (some ⟨b7, o7, none⟩) k cu) la := hR.keep fun b1 hb1 => hM3.block b1 (hR.lt b1 hb1).2 (fun e => by
              have h1 := (hU.lt b1 e).1
              have h2 := hblk b1 hb1
              omega)
            have hB3' : Below w.heap.size w w3 := hB.trans (hB3.mono (by have := HB4.out.size; rw [HBS.out]; exact this))
            obtain ⟨m1, hm1⟩ : ∃ m1, m1 = ((la.take t).filter (· ≠ y)).length := ⟨_, rfl⟩
            rw [← hm1] at eU hrun hR3
            subst eU
            have HRUN := Lib.hid hrun
            have HU := Lib.hid hR3
            have HX := Lib.hid (And.intro hRR (And.intro hH3 (And.intro hB3' (And.intro (Nat.le_trans hBs hM3.size) (And.intro hlt e4)))))
            clear hU hR hH hB hBs e4 hxy hx htk ht hlal hblk h7 hul hrun hR3 hB3 hM3 hH3 hRR hB3' hm1
            go_wp2_with (at_builtin; refine wpList_append_eq rfl (.tmp 91) (.tmp 96) 30 30 rfl _ _ _ rfl rfl HRUN.out ?_)
            go_roundw
            case rel => exact ⟨t + 1, by have := HX.out.2.2.2.2.1; omega, by go_num, by rw [HX.out.2.2.2.2.2]; exact HU.out, HX.out.1, HX.out.2.1, HX.out.2.2.1, HX.out.2.2.2.1⟩
            case measure => simp [intOf]; have := HX.out.2.2.2.2.1; omega
        · obtain rfl : t = k := by omega
          have hall : (la.take t).filter (· ≠ y) = P ++ Q := by rw [← HF.out.2.1, List.take_of_length_le (by rw [hlal]; exact Nat.le_refl _)]
          rw [hall] at hU
          have hpl : (P ++ Q).length + 1 = t := by rw [← hlal, HF.out.1]; simp; omega
          obtain ⟨A3, c3, w3, hrun, hR3, hB3, hM3, -, -⟩ := pushI_one hU y hBs (by have := HN.out; omega) 30
          have hH3 := hH.row hU hM3 (by decide) (by decide) (by decide)
          have hB3' : Below w.heap.size w w3 := hB.trans (hB3.mono (by have := HB4.out.size; rw [HBS.out]; exact this))
          obtain ⟨Uu, cuu, eU, -⟩ := hU.form
          obtain ⟨m1, hm1⟩ : ∃ m1, m1 = (P ++ Q).length := ⟨_, rfl⟩
          rw [← hm1] at eU hrun hR3
          subst eU
          have hR3' := hR3.mono (base' := w.heap.size) (by have := HB4.out.size; rw [HBS.out]; exact this)
          have d4 : decide ((t : Int) < (t : Int)) = false := d1
          have hperm : (P ++ Q ++ [y]).Perm (ups t) := by
            refine List.Perm.trans ?_ HF.out.2.2.2.2.2
            rw [HF.out.1, List.append_assoc]
            exact List.Perm.append_left P (List.perm_append_comm (l₁ := Q) (l₂ := [y]))
          have HRUN := Lib.hid hrun
          have HX := Lib.hid (And.intro hR3' (And.intro hH3 (And.intro hB3' hperm)))
          clear hU hR hH hB hBs hge ht hlal hblk hall hpl hrun hR3 hB3 hM3 hH3 hB3' hm1 hR3' hperm
          go_wp2_with (at_builtin; refine wpList_append_eq rfl (.tmp 98) (.tmp 100) 30 30 rfl _ _ _ rfl rfl HRUN.out ?_)
          go_roundw
          case rel => exact ⟨q + 1, c + 1, P ++ Q ++ [y], by have := HQ.out; omega, by go_num, by have := HF.out; omega, HX.out.2.2.2, HX.out.1, HX.out.2.1, HX.out.2.2.1⟩
          case measure => simp [intOf]; have := HQ.out; omega
    · have hk : ∀ s ∈ Tx la, s.k ≠ y := fun s hs e => hin ((hmem y).1 (e ▸ Tx_keys hs))
      have HR := Lib.hid hR
      have HH := Lib.hid hH
      have HB := Lib.hid hB
      have HF := Lib.hid (And.intro hk (And.intro hc (And.intro hP hyk)))
      have hcase : (decide (y ≥ 0) = false) ∨ (decide (y ≥ 0) = true ∧ decide (y < (k : Int)) = false) := by
        by_cases h0 : y ≥ 0
        · exact .inr ⟨decide_eq_true h0, decide_eq_false (by omega)⟩
        · exact .inl (decide_eq_false h0)
      clear hR hH hB hc hP hlal hmem hnd hn hyk hin hk
      rcases hcase with e1 | ⟨e1, e2⟩
      · have e1' : decide (0 ≤ y) = false := e1
        go_wp2_with fail
        refine (lgetIS_out cb w.heap.size c k (Tx la) y _ HH.out HF.out.1 HF.out.2.2.2).mono ?_
        rintro e w4 ⟨rfl, hB4⟩
        have HX := Lib.hid (And.intro (HR.out.below hB4) (And.intro (HH.out.below hB4) (HB.out.trans (hB4.mono HB.out.size))))
        clear hB4 hcr HR HH HB
        go_wp2_with fail
        go_roundw
        case rel => exact ⟨q + 1, c, la, by have := HQ.out; omega, by go_num, by have := HF.out; omega, HF.out.2.2.1, HX.out.1, HX.out.2.1, HX.out.2.2⟩
        case measure => simp [intOf]; have := HQ.out; omega
      · have e1' : decide (0 ≤ y) = true := e1
        go_wp2_with fail
        refine (lgetIS_out cb w.heap.size c k (Tx la) y _ HH.out HF.out.1 HF.out.2.2.2).mono ?_
        rintro e w4 ⟨rfl, hB4⟩
        have HX := Lib.hid (And.intro (HR.out.below hB4) (And.intro (HH.out.below hB4) (HB.out.trans (hB4.mono HB.out.size))))
        clear hB4 hcr HR HH HB
        go_wp2_with fail
        go_roundw
        case rel => exact ⟨q + 1, c, la, by have := HQ.out; omega, by go_num, by have := HF.out; omega, HF.out.2.2.1, HX.out.1, HX.out.2.1, HX.out.2.2⟩
        case measure => simp [intOf]; have := HQ.out; omega
  · have hX := hR.form
    rw [hlal] at hX
    obtain ⟨Au, cu, rfl, -⟩ := hX
    have d3 : decide ((q : Int) < (l.length : Int)) = false := by simp; omega
    have hx100 : ∀ x ∈ la, x < 100 := fun x hx => by have := (hmem x).1 hx; omega
    have HR := Lib.hid hR
    have HH := Lib.hid hH
    have HB := Lib.hid hB
    have HF := Lib.hid (And.intro hlal (And.intro hx100 (And.intro hc (And.intro hq hmem))))
    have hnlt : ¬ q < l.length := Nat.not_lt.2 hge
    clear hR hH hB hc hP hlal hmem hnd hn hq hge hx100
    go_wp2_with fail
    -- the last loop: they go
    go_loopw [15] (fun i wr => ∃ t : Nat, t ≤ k ∧ i = .int .i64 t ∧ IRow wr w.heap.size (.slice Au k cu) la ∧ LruAtIS wr cb w.heap.size (c + t) k (Ty la t) ∧ Below w.heap.size w wr) (fun i _ => k - (intOf i).toNat)
    case atStart => exact ⟨0, by omega, rfl, HR.out, by simpa [Ty, ups] using HH.out, HB.out⟩
    case round =>
      obtain ⟨t, ht, rfl, hR, hH, hB⟩ := hrel
      clear HR HH HB
      have hlal := HF.out.1
      rcases Nat.lt_or_ge t k with hlt | hge
      · have d4 : decide ((t : Int) < (k : Int)) = true := by simp; omega
        have x1 : IntKind.i64.wrap ((t : Int) + 1) = (t : Int) + 1 := IntWalk.i64_in _ (by have := HN.out; omega)
        have x2 : IntKind.i64.wrap (1000 + (t : Int)) = 1000 + (t : Int) := IntWalk.i64_in _ (by have := HN.out; omega)
        obtain ⟨x, hx⟩ : ∃ x, x = la[t]'(by rw [hlal]; exact hlt) := ⟨_, rfl⟩
        obtain ⟨hc1, hc2⟩ := Ty_cut (la := la) (i := t) (by rw [hlal]; exact hlt)
        rw [← hx] at hc1
        have hkeys : ∀ s ∈ Ty la t, s.k ≠ 1000 + (t : Int) := fun s hs => Ty_keys HF.out.2.1 hs
        have hlenT := Ty_length (la := la) (i := t) (by rw [hlal]; omega)
        rw [hc1] at hH hkeys hlenT
        have hput := lputIS_goes cb w.heap.size (c + t) k _ [] (mkx x) (1000 + (t : Int)) [121] wr hH hkeys (WF.out _ (by omega) (by have := HN.out; omega)) (by rw [hlenT, hlal]; exact Int.le_refl _) rfl (by simp) (by have := HF.out.2.2.1; have := HF.out.2.2.2.1; have := HN.out; omega) hB.size
        have HP := Lib.hid hput
        have hx2 : ∀ h : t < la.length, la[t]'h = x := fun _ => hx.symm
        have HX := Lib.hid (And.intro hR (And.intro hB (And.intro hx2 hc2)))
        clear hR hB hH ht hlal hkeys hlenT hc1 hc2 hput hx hx2
        go_wp2_with fail
        refine HP.out.mono ?_
        rintro e w4 ⟨rfl, hH4, hO4⟩
        have hR4 := HX.out.1.shyLIS hO4.1 (by decide) (by decide)
        obtain ⟨A7, c7, e7, -, -, h7⟩ := rowI_at hR4
        obtain ⟨b7, o7, eA, hc7⟩ := h7 t (by rw [HF.out.1]; exact hlt)
        simp only [Value.slice.injEq] at e7
        obtain ⟨rfl, -, rfl⟩ := e7
        rw [HX.out.2.2.1] at hc7
        subst eA
        have e3 : ((mkx x).k != x) = false := by simp [mkx]
        have e5 : (!(str (mkx x).v).toList == [120]) = false := by
          show (!(str [120]).toList == [120]) = false
          decide +kernel
        have HY := Lib.hid (And.intro hR4 (And.intro (HX.out.2.1.trans hO4.2) hH4))
        clear hR4 hO4 hH4 h7 HP
        go_wp2_with fail
        go_roundw
        case rel => exact ⟨t + 1, by omega, by go_num, HY.out.1, by rw [← HX.out.2.2.2, ← Nat.add_assoc]; exact HY.out.2.2, HY.out.2.1⟩
        case measure => simp [intOf]; omega
      · obtain rfl : t = k := by omega
        have d4 : decide ((t : Int) < (t : Int)) = false := d1
        have hnlt2 : ¬ t < t := Nat.lt_irrefl t
        have HX := Lib.hid (And.intro hH hB)
        have hlenT := Ty_length (la := la) (i := t) (by rw [hlal]; omega)
        have HL := Lib.hid (hlenT.trans hlal)
        clear hR hH hB hge ht hlal hlenT
        go_wp2_with fail
        refine (alive5_any _).mono ?_
        rintro e w4 ⟨rfl, hb⟩
        have H4 := Lib.hid (HX.out.1.below hb)
        have B4 := Lib.hid (HX.out.2.trans (hb.mono HX.out.2.size))
        clear hb
        go_wp2_with fail
        refine (llenIS_any cb w.heap.size (c + t) t _ w4 H4.out).mono ?_
        rintro e w5 ⟨rfl, rfl⟩
        rw [HL.out]
        go_wp2
        go_ret
        exact ⟨by simp, B4.out⟩

set_option maxRecDepth 100000 in
theorem lruOrder_lifted (os : Os) (started : os.Started) (H : Type) (enc : TypeId × Value → H) :
    ReturnsInHanded {} Try.checked os 5 .any (Rows.lruOrderSpec.pre6 enc Try.prog Try.f5 Rows.lruOrderRow.domain false) (Rows.lruOrderSpec.post enc Try.prog Try.f5 false true false false) := by
  refine returnsInHanded_of_change (C := Try.checked) own started (by kernel_rfl) Try.func5
    (ChangeSpec.witness6 (enc := enc) (C := Try.checked) false ⟨#[], #[.int .i64 0, .slice none 0 0], []⟩ 8 (by kernel_rfl) (by kernel_rfl) (by kernel_rfl) (by kernel_rfl)) ?_
  intro W base args ds gs before hval0 hW _ _
  have hval : ∀ (j : Nat) t v, Try.f5.params[j]? = some t → args[j]? = some v → Value.okWide Try.prog W .any base t v := hval0
  have hW' := hW
  obtain ⟨p, q, hA0, hV, rfl, hfz, hnd⟩ := hW
  have hA : DataW.TrodAll enc Try.prog W 0 (fun _ => true) true Try.f5.params.toList args.toList ds p := hA0
  rw [Try.params5] at hA hval
  obtain ⟨v0, vs0, d0, ds0, p0, q0, hargs, rfl, rfl, h0, r0⟩ := trodAll_cons hA
  obtain ⟨v1, vs1, d1, ds1, p1, q1, rfl, rfl, rfl, h1, r1⟩ := trodAll_cons r0
  obtain ⟨rfl, rfl, rfl⟩ := trodAll_nil r1
  obtain rfl : args = #[v0, v1] := by cases args; simp_all
  obtain ⟨rfl, rfl⟩ := trodVars_none hV
  have k0 := h0
  have lt0 : ∀ x ∈ p0, x.block < W.heap.size := by obtain ⟨m, hm⟩ := k0; exact DataW.trod_lt m _ _ _ hm
  have k1 := h1
  have lt1 : ∀ x ∈ p1, x.block < W.heap.size := by obtain ⟨m, hm⟩ := k1; exact DataW.trod_lt m _ _ _ hm
  obtain ⟨a0, rfl, rfl, rfl, w0⟩ := open_int Try.underlying3 (hval 0 3 v0 rfl rfl) h0
  obtain ⟨a1, w1⟩ := ints_open (hval 1 30 v1 rfl rfl) k1
  clear hA0 hval0
  refine (lruOrder_walk a0 w0 v1 a1 W w1).mono fun e W' ⟨he, bel⟩ => ?_
  subst he
  exact ⟨_, rfl, _, _, _, [], _, [], hW', trodAll_mk1 (shut_bool Try.underlying4 _), (trodAll_cons_mk (Below.trod laidOut (by kernel_rfl) (of_decide_eq_true (by kernel_rfl)) k0 bel lt0) (trodAll_cons_mk (Below.trod laidOut (by kernel_rfl) (of_decide_eq_true (by kernel_rfl)) k1 bel lt1) trodAll_mk0)), rfl, bel.frame _, fun h => by cases h⟩

theorem lruOrder_said : Rows.LruOrderSaid :=
  OpenClaim.holds_of_wide 5 Try.f5 rfl rfl rfl rfl rfl rfl rfl ⟨rfl, rfl, rfl, rfl, rfl⟩ rfl rfl rfl rfl rfl (by kernel_rfl) Try.func5 (by kernel_rfl)
    (of_decide_eq_true (by kernel_rfl)) (by unfold Func.isWrapper; first | (rw [if_pos (by decide +kernel)]; kernel_rfl) | (rw [if_neg (by decide +kernel)]; exact ⟨rfl, rfl⟩))
    (fun os started H enc _ => lruOrder_lifted os started H enc)
#print axioms lruOrder_said
end Go.Proofs.Ytegmefchfphphaa
