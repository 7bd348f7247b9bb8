/- The statement LogRound of package wlog: however many transactions go through a log, freed in their order, a log that is freed has room again, and its numbers rise by one; it holds of every list of ints and every list of bools. -/
import Derived.Test.YtlaclbcckadmkaaGreatWlT
import Derived.ChangeOld
namespace Go.Proofs.YtlaclbcckadmkaaGreat
open Go Go.RowKit DskP WlP SupP RdkP Go.ChangeShapes Go.WideShapes Go.ChangeAt
set_option maxRecDepth 100000
set_option maxHeartbeats 4000000
set_option linter.unusedSimpArgs false

theorem round_fits {d p k q : Nat} {S : Nat → Prop} {w0 w : World} {G : Lg} {D : Dsk} {c : Nat} (h : RoundAt d p k q S w0 G D c w) : Calls Tryz.prog 14 #[.pointer (some ⟨p, 0, none⟩), .int .i64 1] w fun e w' => e = .returned (.bool (decide (G.used + 3 ≤ 7))) ∧ Below w.heap.size w w' := by
  refine (lgfits_any d p k q G h.go.ok 1 w h.at_.sits).mono ?_
  rintro e w' ⟨rfl, hb⟩
  refine ⟨?_, hb⟩
  have hs : secN 1 = 3 := by decide
  have hm : mostN ((7 : Nat) + 1 : Int) = 1 := by decide
  have : wfits G 1 = decide (G.used + 3 ≤ 7) := by
    unfold wfits
    rw [h.pl, h.go.br, hm]
    simp only [Bool.not_false, Bool.true_and, show Int.toNat 1 = 1 from rfl, hs]
    simp
    omega
  rw [this]
theorem one_w {u : Nat} (hu : (u : Int) < 18446744073709551616) : ∀ i ∈ [oneIm 0 u], ImW i := by
  intro i hi
  rw [List.mem_singleton] at hi
  subst hi
  exact oneIm_w (by omega) hu
theorem round_add {d p k q : Nat} {S : Nat → Prop} {w0 w : World} {G : Lg} {D : Dsk} {c : Nat} (hS : ∀ i, w0.heap.size ≤ i → S i) (h : RoundAt d p k q S w0 G D c w) (hN : G.next < 1000000) (hr : G.used + 3 ≤ 7) (v : Value) (u : Nat) (hu : (u : Int) < 18446744073709551616) (hv : Ims w v [oneIm 0 u]) :
    Calls Tryz.prog 8 #[.pointer (some ⟨p, 0, none⟩), v] w fun e w' => e = .returned (.tuple #[.int .u64 (G.next : Int), .int .i64 0]) ∧ ∃ G', RoundAt d p k q S w0 G' D c w' ∧ G'.next = G.next + 1 := by
  obtain ⟨t, e1, l1, g1⟩ := wadd_go h.go (n := 0) (v := u) (by omega) (by rw [h.pl]; decide) (by omega) (by rw [h.pl]; exact hr)
  refine (lgadd_any d p k q G D h.go.ok (by omega) v [oneIm 0 u] (one_w hu) hS h.at_ hv).mono ?_
  rintro e w' ⟨rfl, hA⟩
  rw [e1] at hA ⊢
  exact ⟨rfl, _, ⟨hA, g1, h.n, h.pl, h.cnt⟩, rfl⟩
theorem round_full {d p k q : Nat} {S : Nat → Prop} {w0 w : World} {G : Lg} {D : Dsk} {c : Nat} (hS : ∀ i, w0.heap.size ≤ i → S i) (h : RoundAt d p k q S w0 G D c w) (hN : G.next < 1000000) (hr : ¬ G.used + 3 ≤ 7) (v : Value) (u : Nat) (hu : (u : Int) < 18446744073709551616) (hv : Ims w v [oneIm 0 u]) :
    Calls Tryz.prog 8 #[.pointer (some ⟨p, 0, none⟩), v] w fun e w' => e = .returned (.tuple #[.int .u64 0, .int .i64 10]) ∧ RoundAt d p k q S w0 G D c w' := by
  have e1 := wadd_full h.go (n := 0) (v := u) (by omega) (by rw [h.pl]; decide) (by rw [h.pl]; exact hr)
  refine (lgadd_any d p k q G D h.go.ok (by omega) v [oneIm 0 u] (one_w hu) hS h.at_ hv).mono ?_
  rintro e w' ⟨rfl, hA⟩
  rw [e1] at hA ⊢
  exact ⟨rfl, hA, h.go, h.n, h.pl, h.cnt⟩
theorem logRound_walk (v : Value) (l : List Int) (v2 : Value) (l2 : List Bool) (w : World) (hl : (∀ x ∈ l, i64ok x) ∧ Ints w v l) (hl2 : (∀ _x ∈ l2, True) ∧ Bools w v2 l2) :
    Calls Tryz.prog 4 #[v, v2] w fun e w' => e = .returned (.bool true) ∧ Below w.heap.size w w' := by
  have HAL := Lib.hid alive12_any
  have HRE := Lib.hid ready_any
  have HON := Lib.hid rone_n
  have HMO := Lib.hid refmost8_any
  obtain ⟨A, cap, rfl, ha1, ha2, ha3⟩ := hl.2.one_
  obtain ⟨B, cap2, rfl, hb1, hb2, hb3⟩ := hl2.2.one_
  have hlen : (l.length : Int) ≤ 9223372036854775807 := by omega
  have hlen2 : (l2.length : Int) ≤ 9223372036854775807 := by omega
  have HLA := Lib.hid ha3
  have HLB := Lib.hid hb3
  clear hl hl2 ha3 hb3 ha1 ha2 hb1 hb2
  by_cases hbig : 60 < l.length ∨ 60 < l2.length
  · by_cases h1 : 60 < l.length
    · have d1 : decide ((60 : Int) < (l.length : Int)) = true := decide_eq_true (by omega)
      have d1' : decide (60 < l.length) = true := decide_eq_true h1
      clear hbig h1
      go_enter Tryz.func4, Tryz.ntmps4
      go_wp2_with fail
      refine (HAL.out w).mono ?_
      rintro e w1 ⟨rfl, hb⟩
      have HB := Lib.hid hb
      clear hb
      go_wp2
      go_ret
      exact ⟨rfl, HB.out⟩
    · have d1 : decide ((60 : Int) < (l.length : Int)) = false := decide_eq_false (by omega)
      have d1' : decide (60 < l.length) = false := decide_eq_false h1
      have d2 : decide ((60 : Int) < (l2.length : Int)) = true := decide_eq_true (by omega)
      have d2' : decide (60 < l2.length) = true := decide_eq_true (by omega)
      clear hbig h1
      go_enter Tryz.func4, Tryz.ntmps4
      go_wp2_with fail
      refine (HAL.out w).mono ?_
      rintro e w1 ⟨rfl, hb⟩
      have HB := Lib.hid hb
      clear hb
      go_wp2
      go_ret
      exact ⟨rfl, HB.out⟩
  · have hs1 : l.length ≤ 60 := by omega
    have hs2 : l2.length ≤ 60 := by omega
    have d1 : decide (60 < l.length) = false := decide_eq_false (by omega)
    have d2 : decide (60 < l2.length) = false := decide_eq_false (by omega)
    have d1' : decide ((60 : Int) < (l.length : Int)) = false := decide_eq_false (by omega)
    have d2' : decide ((60 : Int) < (l2.length : Int)) = false := decide_eq_false (by omega)
    unfold aggH alSh at HRE
    simp only at HRE
    clear hbig
    go_enter Tryz.func4, Tryz.ntmps4
    go_wp2_with fail
    refine (HRE.out w).mono ?_
    rintro e w1 ⟨d, r, rfl, hA⟩
    have hA1 := hA.fst (holdD d rdyD)
    obtain ⟨W2, hW2⟩ : ∃ W, W = w1.alloc (.cells #[.int .i64 2, .int .i64 10, .int .i64 8, .int .i64 4, .int .i64 32] 33) := ⟨_, rfl⟩
    have hb2 : Below w1.heap.size w1 W2 := hW2 ▸ (Below.refl _ w1).alloc (Nat.le_refl _) _
    have hs2' : Sits W2 w1.heap.size 33 #[.int .i64 2, .int .i64 10, .int .i64 8, .int .i64 4, .int .i64 32] := hW2 ▸ Sits.fresh w1 _ _
    obtain ⟨lb, hlb⟩ : ∃ x, x = w1.heap.size := ⟨_, rfl⟩
    obtain ⟨S, hS⟩ : ∃ S : Nat → Prop, S = fun i => w.heap.size ≤ i ∧ i ≠ lb := ⟨_, rfl⟩
    have HS : Hid (∀ i, W2.heap.size ≤ i → S i) := Lib.hid fun i hi => by
      have h1 := hA1.below.size
      have h2 := hs2'.lt
      rw [hS]
      exact ⟨by omega, by omega⟩
    have HA2 : Hid (At (DP d rdyD) S W2 W2) := Lib.hid ⟨(holdD d rdyD).mono ((holdD d rdyD).keep ((holdD d rdyD).less hA1.here) fun i hi _ => hb2.block i hi.2) fun i hi => by rw [hS]; exact ⟨hi.1, by have := hi.2; omega⟩, Many.refl S W2⟩
    have hbw : Below w.heap.size w W2 := hA1.below.trans (hb2.mono hA1.below.size)
    have HBW : Hid (∀ W, Many S W2 W → Below w.heap.size w W) := Lib.hid fun W hW => hbw.trans (hW.below (fun i hi => by rw [hS] at hi; exact hi.1) hbw.size)
    have HLY : Hid (∀ W, Many S W2 W → Sits W lb 33 #[.int .i64 2, .int .i64 10, .int .i64 8, .int .i64 4, .int .i64 32]) := Lib.hid fun W hW => by
      rw [← hlb] at hs2'
      exact hs2'.many hW (by rw [hS]; exact fun h => h.2 rfl)
    have HOP := Lib.hid fun W (h : At (DP d rdyD) S W2 W) => open12_any HS.out h
    unfold aggH alSh at HOP
    simp only at HOP
    clear hA hA1 hb2 hs2' hS hbw
    go_wp2_with fail
    rw [← hW2, ← hlb]
    clear hW2 hlb
    refine (HOP.out W2 HA2.out).mono ?_
    rintro e w3 ⟨p, k, q, D1, rfl, hA, hgo, hn, hc⟩
    have HR3 : Hid (RoundAt d p k q S W2 lgA D1 (1001 + 2200 * 0) w3 ∧ lgA.next ≤ 0 + 1) := Lib.hid ⟨⟨hA, hgo, hn, rfl, hc⟩, by decide⟩
    clear hA hgo hn hc HA2 HOP
    go_wp2_with fail
    go_loopw [11, 12] (fun nv iv wr => ∃ (i : Nat) (G : Lg) (D : Dsk), i ≤ l.length ∧ nv = .int .u64 (G.next : Int) ∧ iv = .int .i64 (i : Int) ∧ Hid (RoundAt d p k q S W2 G D (1001 + 2200 * i) wr ∧ G.next ≤ i + 1)) (fun _ iv _ => l.length - (intOf iv).toNat)
    case atStart => exact ⟨0, lgA, D1, by omega, rfl, rfl, HR3.out⟩
    case round =>
      obtain ⟨i, G, D, hi, rfl, rfl, hI⟩ := hrel
      clear HR3
      by_cases hlt : i < l.length
      · obtain ⟨b, o, rfl, hb, hx⟩ := HLA.out i hlt
        have HX : Hid (∀ W, Many S W2 W → W.cell? ⟨b, o + i, none⟩ = some (.int .i64 l[i])) := Lib.hid fun W hW => ((HBW.out W hW).cell (p := ⟨b, o + i, none⟩) hb).trans hx
        generalize l[i] = x at HX
        have hly := HLY.out wr hI.out.1.at_.many
        have z2 : wr.cell? ⟨lb, 2, none⟩ = some (.int .i64 8) := hly.cell 2
        have cx := HX.out wr hI.out.1.at_.many
        have HMQ : Hid (∀ j, Calls Tryz.prog 22 #[.int .i64 8] (wr.drewN j) fun e w' => e = .returned (.int .i64 1) ∧ w' = wr.drewN j) := Lib.hid fun j => (HMO.out (wr.drewN j)).mono fun _ _ ⟨a, b⟩ => ⟨a, b.symm⟩
        have hlt' : (i : Int) < (l.length : Int) := by omega
        clear hx hb hly
        by_cases hx1 : x < 1
        · have d3 : decide (x < 1) = true := decide_eq_true hx1
          go_wp2_with fail
          go_quiet (exact Calls.quiet_of_same (HMQ.out _))
          go_wp2
          go_ret
          exact ⟨rfl, below_drewN (HBW.out wr hI.out.1.at_.many) _⟩
        · have d3 : decide (x < 1) = false := decide_eq_false hx1
          by_cases hx2 : 1 < x
          · have d4 : decide (1 < x) = true := decide_eq_true hx2
            go_wp2_with fail
            go_quiet (exact Calls.quiet_of_same (HMQ.out _))
            go_wp2
            go_ret
            exact ⟨rfl, below_drewN (HBW.out wr hI.out.1.at_.many) _⟩
          · have hx3 : x = 1 := by omega
            subst hx3
            have hnx := hI.out.2
            have hnI := hI.out.2
            have HNX : Hid ((G.next : Int) < 18446744073709551616) := Lib.hid (by omega)
            have HN6 : Hid (G.next < 1000000) := Lib.hid (by omega)
            go_wp2_with fail
            go_quiet (exact Calls.quiet_of_same (HMQ.out _))
            go_wp2_with fail
            have HR5 := Lib.hid (hI.out.1.down (below_drewN (Below.refl wr.heap.size wr) nq))
            generalize wr.drewN nq = w5 at HR5 ⊢
            clear hnx cx z2 HMQ
            go_loopw [13, 14] (fun lv kv wr => ∃ (j : Nat), j ≤ 1 ∧ kv = .int .i64 (j : Int) ∧ Hid (RoundAt d p k q S W2 G D (1001 + 2200 * i) wr ∧ (j = 0 → lv = .slice none 0 0) ∧ (j = 1 → ∃ A cap, lv = .slice A 1 cap ∧ Ims wr lv [oneIm 0 G.next]))) (fun _ kv _ => 1 - (intOf kv).toNat)
            case atStart => exact ⟨0, by omega, rfl, Lib.hid ⟨HR5.out, fun _ => rfl, fun h => absurd h (by omega)⟩⟩
            case round =>
              obtain ⟨j, hj, rfl, hJ⟩ := hrel
              have cx := HX.out wr hJ.out.1.at_.many
              by_cases hj0 : j = 0
              · subst hj0
                have hl0 := hJ.out.2.1 rfl
                have HR6 := Lib.hid fun W (hb : Below wr.heap.size wr W) => hJ.out.1.down hb
                subst hl0
                clear hJ
                go_wp2_with fail
                refine (HON.out 0 G.next (by omega) HNX.out wr).mono ?_
                rintro e w6 ⟨rfl, hb⟩
                obtain ⟨A6, cap6, w7, hrun, him, hb7⟩ := append_im w6 (oneIm 0 G.next) 56
                have HRUN := Lib.hid hrun
                have HIM := Lib.hid him
                have HR7 := Lib.hid (HR6.out w7 (hb.trans (hb7.mono hb.size)))
                clear hrun him hb hb7 cx
                go_wp2_with (at_builtin; refine wpList_append_eq rfl (.tmp 77) (.tmp 81) 56 56 rfl _ _ _ rfl rfl HRUN.out ?_)
                go_roundw
                case rel => exact ⟨1, by omega, rfl, Lib.hid ⟨HR7.out, fun h => absurd h (by omega), fun _ => ⟨_, _, rfl, HIM.out⟩⟩⟩
                case measure => simp [intOf]
              · have hj1 : j = 1 := by omega
                subst hj1
                obtain ⟨A6, cap6, rfl, him⟩ := hJ.out.2.2 rfl
                have HR6 := Lib.hid hJ.out.1
                have HIM := Lib.hid him
                clear hJ him HR5
                generalize wr = w6 at *
                have HFI := Lib.hid (round_fits HR6.out)
                go_wp2_with fail
                refine HFI.out.mono ?_
                rintro e w7 ⟨rfl, hb⟩
                have HR7 := Lib.hid (HR6.out.down hb)
                have HIM7 := Lib.hid (HIM.out.below hb)
                clear hb HR6 HIM HFI cx
                by_cases hr : G.used + 3 ≤ 7
                · have hd : decide (G.used + 3 ≤ 7) = true := decide_eq_true hr
                  rw [hd]
                  have HAD := Lib.hid (round_add HS.out HR7.out HN6.out hr _ G.next HNX.out HIM7.out)
                  clear hr hd
                  go_wp2_with fail
                  refine HAD.out.mono ?_
                  rintro e w8 ⟨rfl, G1, hR8, hn1⟩
                  have HR8 := Lib.hid hR8
                  obtain ⟨nx, hnx⟩ : ∃ nx, nx = G1.next := ⟨_, rfl⟩
                  have e1 : IntKind.u64.wrap ((G.next : Int) + 1) = (nx : Int) := by rw [show (G.next : Int) + 1 = (nx : Int) by omega]; exact IntWalk.u64_in _ (by have := HN6.out; omega)
                  have HNE : Hid (G1.next = nx) := Lib.hid hnx.symm
                  have HNI : Hid (nx ≤ i + 1 + 1) := Lib.hid (by have := hnI; omega)
                  clear hR8 hn1 hnx
                  by_cases hf : i < l2.length
                  · obtain ⟨b2, o2, rfl, hb2, hy⟩ := HLB.out i hf
                    have HY : Hid (∀ W, Many S W2 W → W.cell? ⟨b2, o2 + i, none⟩ = some (.bool l2[i])) := Lib.hid fun W hW => ((HBW.out W hW).cell (p := ⟨b2, o2 + i, none⟩) hb2).trans hy
                    have df : decide (i < l2.length) = true := decide_eq_true hf
                    have df' : (i : Int) < (l2.length : Int) := by omega
                    cases hyb : l2[i]
                    · rw [hyb] at HY
                      have cy := HY.out w8 HR8.out.at_.many
                      clear hy hb2 hyb
                      have hr_ := HR8.out
                      have HUQ : Hid (∀ j, Calls Tryz.prog 19 #[.pointer (some ⟨p, 0, none⟩)] (w8.drewN j) fun e w' => e = .returned (.int .i64 (G1.used : Int)) ∧ w' = w8.drewN j) := Lib.hid fun j => (lgused_any (hr_.down (below_drewN (Below.refl _ _) j)).at_.sits).mono fun _ _ ⟨a, b⟩ => ⟨a, b.symm⟩
                      have HNQ : Hid (∀ j, Calls Tryz.prog 15 #[.pointer (some ⟨p, 0, none⟩)] (w8.drewN j) fun e w' => e = .returned (.int .u64 (nx : Int)) ∧ w' = w8.drewN j) := Lib.hid fun j => by
                        have := lgnext_any (hr_.down (below_drewN (Below.refl _ _) j)).at_.sits
                        rw [HNE.out] at this
                        exact this.mono fun _ _ ⟨a, b⟩ => ⟨a, b.symm⟩
                      have hus : G1.used ≤ 7 := by
                        have h1 := hr_.go.ok.room
                        have h2 := hr_.pl
                        omega
                      have du : decide (7 < G1.used) = false := decide_eq_false (by omega)
                      have du' : decide ((7 : Int) < (G1.used : Int)) = false := decide_eq_false (by omega)
                      have dn : ¬ 7 < G1.used := by omega
                      have z2 : w8.cell? ⟨lb, 2, none⟩ = some (.int .i64 8) := (HLY.out w8 hr_.at_.many).cell 2
                      have HFIN := Lib.hid fun j => hr_.down (below_drewN (Below.refl w8.heap.size w8) j)
                      have e9 : IntKind.i64.wrap ((i : Int) + 1) = ((i + 1 : Nat) : Int) := by rw [show (i : Int) + 1 = ((i + 1 : Nat) : Int) by omega]; exact IntWalk.i64_in _ (by omega)
                      generalize G1.used = us at HUQ du du' dn hus
                      clear hr_
                      go_wp2_with fail
                      go_quiet (first | exact Calls.quiet_of_same (HUQ.out _) | exact Calls.quiet_of_same (HNQ.out _))
                      go_wp2
                      go_roundw
                      case rel => exact ⟨i + 1, G1, _, by omega, by rw [HNE.out], rfl, Lib.hid ⟨(HFIN.out _).more (by omega), by have h1 := HNI.out; have h2 := HNE.out; omega⟩⟩
                      case measure => simp [intOf]; omega
                    · rw [hyb] at HY
                      clear hy hb2 hyb
                      have hsy := round_sync HS.out HR8.out (by omega)
                      have HSY := Lib.hid hsy
                      have cy := HY.out w8 HR8.out.at_.many
                      clear hsy
                      go_wp2_with fail
                      refine HSY.out.mono ?_
                      rintro e wA ⟨rfl, DA, hRA⟩
                      have HFR := Lib.hid (round_free HS.out hRA (by omega) (nx - 1) (by show nx - 1 ≤ G1.next - 1 + 1; rw [HNE.out]; omega))
                      have e8 : IntKind.u64.wrap ((nx : Int) - 1) = ((nx - 1 : Nat) : Int) := by
                        have h1 := HR8.out.go.ok.pendN
                        rw [HNE.out] at h1
                        have h2 := HN6.out
                        have h3 := HNI.out
                        rw [show (nx : Int) - 1 = ((nx - 1 : Nat) : Int) by omega]
                        exact IntWalk.u64_in _ (by omega)
                      obtain ⟨nx1, hnx1⟩ : ∃ y, y = nx - 1 := ⟨_, rfl⟩
                      rw [← hnx1] at e8 HFR
                      clear hRA cy hnx1
                      go_wp2_with fail
                      refine HFR.out.mono ?_
                      rintro e wB ⟨rfl, GB, DB, hRB, hnB, -⟩
                      have HNB : Hid (GB.next = nx) := Lib.hid (hnB.trans HNE.out)
                      have HRB := Lib.hid hRB
                      clear hRB hnB e8
                      have hr_ := HRB.out
                      have HUQ : Hid (∀ j, Calls Tryz.prog 19 #[.pointer (some ⟨p, 0, none⟩)] (wB.drewN j) fun e w' => e = .returned (.int .i64 (GB.used : Int)) ∧ w' = wB.drewN j) := Lib.hid fun j => (lgused_any (hr_.down (below_drewN (Below.refl _ _) j)).at_.sits).mono fun _ _ ⟨a, b⟩ => ⟨a, b.symm⟩
                      have HNQ : Hid (∀ j, Calls Tryz.prog 15 #[.pointer (some ⟨p, 0, none⟩)] (wB.drewN j) fun e w' => e = .returned (.int .u64 (nx : Int)) ∧ w' = wB.drewN j) := Lib.hid fun j => by
                        have := lgnext_any (hr_.down (below_drewN (Below.refl _ _) j)).at_.sits
                        rw [HNB.out] at this
                        exact this.mono fun _ _ ⟨a, b⟩ => ⟨a, b.symm⟩
                      have hus : GB.used ≤ 7 := by
                        have h1 := hr_.go.ok.room
                        have h2 := hr_.pl
                        omega
                      have du : decide (7 < GB.used) = false := decide_eq_false (by omega)
                      have du' : decide ((7 : Int) < (GB.used : Int)) = false := decide_eq_false (by omega)
                      have dn : ¬ 7 < GB.used := by omega
                      have z2 : wB.cell? ⟨lb, 2, none⟩ = some (.int .i64 8) := (HLY.out wB hr_.at_.many).cell 2
                      have HFIN := Lib.hid fun j => hr_.down (below_drewN (Below.refl wB.heap.size wB) j)
                      have e9 : IntKind.i64.wrap ((i : Int) + 1) = ((i + 1 : Nat) : Int) := by rw [show (i : Int) + 1 = ((i + 1 : Nat) : Int) by omega]; exact IntWalk.i64_in _ (by omega)
                      generalize GB.used = us at HUQ du du' dn hus
                      clear hr_
                      go_wp2_with fail
                      go_quiet (first | exact Calls.quiet_of_same (HUQ.out _) | exact Calls.quiet_of_same (HNQ.out _))
                      go_wp2
                      go_roundw
                      case rel => exact ⟨i + 1, GB, _, by omega, by rw [HNB.out], rfl, Lib.hid ⟨(HFIN.out _).more (by omega), by have h1 := HNI.out; have h2 := HNB.out; omega⟩⟩
                      case measure => simp [intOf]; omega
                  · have df : decide (i < l2.length) = false := decide_eq_false hf
                    have df' : ¬ (i : Int) < (l2.length : Int) := by omega
                    have hr_ := HR8.out
                    have HUQ : Hid (∀ j, Calls Tryz.prog 19 #[.pointer (some ⟨p, 0, none⟩)] (w8.drewN j) fun e w' => e = .returned (.int .i64 (G1.used : Int)) ∧ w' = w8.drewN j) := Lib.hid fun j => (lgused_any (hr_.down (below_drewN (Below.refl _ _) j)).at_.sits).mono fun _ _ ⟨a, b⟩ => ⟨a, b.symm⟩
                    have HNQ : Hid (∀ j, Calls Tryz.prog 15 #[.pointer (some ⟨p, 0, none⟩)] (w8.drewN j) fun e w' => e = .returned (.int .u64 (nx : Int)) ∧ w' = w8.drewN j) := Lib.hid fun j => by
                      have := lgnext_any (hr_.down (below_drewN (Below.refl _ _) j)).at_.sits
                      rw [HNE.out] at this
                      exact this.mono fun _ _ ⟨a, b⟩ => ⟨a, b.symm⟩
                    have hus : G1.used ≤ 7 := by
                      have h1 := hr_.go.ok.room
                      have h2 := hr_.pl
                      omega
                    have du : decide (7 < G1.used) = false := decide_eq_false (by omega)
                    have du' : decide ((7 : Int) < (G1.used : Int)) = false := decide_eq_false (by omega)
                    have dn : ¬ 7 < G1.used := by omega
                    have z2 : w8.cell? ⟨lb, 2, none⟩ = some (.int .i64 8) := (HLY.out w8 hr_.at_.many).cell 2
                    have HFIN := Lib.hid fun j => hr_.down (below_drewN (Below.refl w8.heap.size w8) j)
                    have e9 : IntKind.i64.wrap ((i : Int) + 1) = ((i + 1 : Nat) : Int) := by rw [show (i : Int) + 1 = ((i + 1 : Nat) : Int) by omega]; exact IntWalk.i64_in _ (by omega)
                    generalize G1.used = us at HUQ du du' dn hus
                    clear hr_
                    go_wp2_with fail
                    go_quiet (first | exact Calls.quiet_of_same (HUQ.out _) | exact Calls.quiet_of_same (HNQ.out _))
                    go_wp2
                    go_roundw
                    case rel => exact ⟨i + 1, G1, _, by omega, by rw [HNE.out], rfl, Lib.hid ⟨(HFIN.out _).more (by omega), by have h1 := HNI.out; have h2 := HNE.out; omega⟩⟩
                    case measure => simp [intOf]; omega
                · have hd : decide (G.used + 3 ≤ 7) = false := decide_eq_false hr
                  rw [hd]
                  have HAD := Lib.hid (round_full HS.out HR7.out HN6.out hr _ G.next HNX.out HIM7.out)
                  clear hr hd
                  go_wp2_with fail
                  refine HAD.out.mono ?_
                  rintro e w8 ⟨rfl, hR8⟩
                  have HR8 := Lib.hid hR8
                  have HSY := Lib.hid (round_sync HS.out hR8 (by omega))
                  clear hR8
                  go_wp2_with fail
                  refine HSY.out.mono ?_
                  rintro e w9 ⟨rfl, D9, hR9⟩
                  have HFR := Lib.hid (round_free HS.out hR9 (by omega) G.next (by show G.next ≤ G.next - 1 + 1; omega))
                  clear hR9
                  go_wp2_with fail
                  refine HFR.out.mono ?_
                  rintro e w10 ⟨rfl, G1, D10, hR10, hn1, hu1⟩
                  have hu0 := hu1 rfl
                  have HR10 := Lib.hid hR10
                  have HUS := Lib.hid (lgused_any hR10.at_.sits)
                  have HFI := Lib.hid (round_fits hR10)
                  have cx := HX.out w10 hR10.at_.many
                  have HNG : Hid (G1.next = G.next) := Lib.hid hn1
                  have HNI : Hid (G.next ≤ i + 1 + 1) := Lib.hid (by have := hnI; omega)
                  rw [hu0] at HUS HFI
                  clear hR10 hn1 hu1 hu0
                  go_wp2_with fail
                  refine HUS.out.mono ?_
                  rintro e w11 ⟨rfl, rfl⟩
                  go_wp2_with fail
                  refine HFI.out.mono ?_
                  rintro e w11 ⟨rfl, hb⟩
                  have HR11 := Lib.hid (HR10.out.down hb)
                  clear hb cx HR10
                  by_cases hf : i < l2.length
                  · obtain ⟨b2, o2, rfl, hb2, hy⟩ := HLB.out i hf
                    have HY : Hid (∀ W, Many S W2 W → W.cell? ⟨b2, o2 + i, none⟩ = some (.bool l2[i])) := Lib.hid fun W hW => ((HBW.out W hW).cell (p := ⟨b2, o2 + i, none⟩) hb2).trans hy
                    have df : decide (i < l2.length) = true := decide_eq_true hf
                    have df' : (i : Int) < (l2.length : Int) := by omega
                    cases hyb : l2[i]
                    · rw [hyb] at HY
                      have cy := HY.out w11 HR11.out.at_.many
                      clear hy hb2 hyb
                      have hr_ := HR11.out
                      have HUQ : Hid (∀ j, Calls Tryz.prog 19 #[.pointer (some ⟨p, 0, none⟩)] (w11.drewN j) fun e w' => e = .returned (.int .i64 (G1.used : Int)) ∧ w' = w11.drewN j) := Lib.hid fun j => (lgused_any (hr_.down (below_drewN (Below.refl _ _) j)).at_.sits).mono fun _ _ ⟨a, b⟩ => ⟨a, b.symm⟩
                      have HNQ : Hid (∀ j, Calls Tryz.prog 15 #[.pointer (some ⟨p, 0, none⟩)] (w11.drewN j) fun e w' => e = .returned (.int .u64 (G.next : Int)) ∧ w' = w11.drewN j) := Lib.hid fun j => by
                        have := lgnext_any (hr_.down (below_drewN (Below.refl _ _) j)).at_.sits
                        rw [HNG.out] at this
                        exact this.mono fun _ _ ⟨a, b⟩ => ⟨a, b.symm⟩
                      have hus : G1.used ≤ 7 := by
                        have h1 := hr_.go.ok.room
                        have h2 := hr_.pl
                        omega
                      have du : decide (7 < G1.used) = false := decide_eq_false (by omega)
                      have du' : decide ((7 : Int) < (G1.used : Int)) = false := decide_eq_false (by omega)
                      have dn : ¬ 7 < G1.used := by omega
                      have z2 : w11.cell? ⟨lb, 2, none⟩ = some (.int .i64 8) := (HLY.out w11 hr_.at_.many).cell 2
                      have HFIN := Lib.hid fun j => hr_.down (below_drewN (Below.refl w11.heap.size w11) j)
                      have e9 : IntKind.i64.wrap ((i : Int) + 1) = ((i + 1 : Nat) : Int) := by rw [show (i : Int) + 1 = ((i + 1 : Nat) : Int) by omega]; exact IntWalk.i64_in _ (by omega)
                      generalize G1.used = us at HUQ du du' dn hus
                      clear hr_
                      go_wp2_with fail
                      go_quiet (first | exact Calls.quiet_of_same (HUQ.out _) | exact Calls.quiet_of_same (HNQ.out _))
                      go_wp2
                      go_roundw
                      case rel => exact ⟨i + 1, G1, _, by omega, by rw [HNG.out], rfl, Lib.hid ⟨(HFIN.out _).more (by omega), by have h1 := HNI.out; have h2 := HNG.out; omega⟩⟩
                      case measure => simp [intOf]; omega
                    · rw [hyb] at HY
                      clear hy hb2 hyb
                      have hsy := round_sync HS.out HR11.out (by omega)
                      have HSY := Lib.hid hsy
                      have cy := HY.out w11 HR11.out.at_.many
                      clear hsy
                      go_wp2_with fail
                      refine HSY.out.mono ?_
                      rintro e wA ⟨rfl, DA, hRA⟩
                      have HFR := Lib.hid (round_free HS.out hRA (by omega) (G.next - 1) (by show G.next - 1 ≤ G1.next - 1 + 1; rw [HNG.out]; omega))
                      have e8 : IntKind.u64.wrap ((G.next : Int) - 1) = ((G.next - 1 : Nat) : Int) := by
                        have h1 := HR11.out.go.ok.pendN
                        rw [HNG.out] at h1
                        have h2 := HN6.out
                        have h3 := HNI.out
                        rw [show (G.next : Int) - 1 = ((G.next - 1 : Nat) : Int) by omega]
                        exact IntWalk.u64_in _ (by omega)
                      obtain ⟨nx1, hnx1⟩ : ∃ y, y = G.next - 1 := ⟨_, rfl⟩
                      rw [← hnx1] at e8 HFR
                      clear hRA cy hnx1
                      go_wp2_with fail
                      refine HFR.out.mono ?_
                      rintro e wB ⟨rfl, GB, DB, hRB, hnB, -⟩
                      have HNB : Hid (GB.next = G.next) := Lib.hid (hnB.trans HNG.out)
                      have HRB := Lib.hid hRB
                      clear hRB hnB e8
                      have hr_ := HRB.out
                      have HUQ : Hid (∀ j, Calls Tryz.prog 19 #[.pointer (some ⟨p, 0, none⟩)] (wB.drewN j) fun e w' => e = .returned (.int .i64 (GB.used : Int)) ∧ w' = wB.drewN j) := Lib.hid fun j => (lgused_any (hr_.down (below_drewN (Below.refl _ _) j)).at_.sits).mono fun _ _ ⟨a, b⟩ => ⟨a, b.symm⟩
                      have HNQ : Hid (∀ j, Calls Tryz.prog 15 #[.pointer (some ⟨p, 0, none⟩)] (wB.drewN j) fun e w' => e = .returned (.int .u64 (G.next : Int)) ∧ w' = wB.drewN j) := Lib.hid fun j => by
                        have := lgnext_any (hr_.down (below_drewN (Below.refl _ _) j)).at_.sits
                        rw [HNB.out] at this
                        exact this.mono fun _ _ ⟨a, b⟩ => ⟨a, b.symm⟩
                      have hus : GB.used ≤ 7 := by
                        have h1 := hr_.go.ok.room
                        have h2 := hr_.pl
                        omega
                      have du : decide (7 < GB.used) = false := decide_eq_false (by omega)
                      have du' : decide ((7 : Int) < (GB.used : Int)) = false := decide_eq_false (by omega)
                      have dn : ¬ 7 < GB.used := by omega
                      have z2 : wB.cell? ⟨lb, 2, none⟩ = some (.int .i64 8) := (HLY.out wB hr_.at_.many).cell 2
                      have HFIN := Lib.hid fun j => hr_.down (below_drewN (Below.refl wB.heap.size wB) j)
                      have e9 : IntKind.i64.wrap ((i : Int) + 1) = ((i + 1 : Nat) : Int) := by rw [show (i : Int) + 1 = ((i + 1 : Nat) : Int) by omega]; exact IntWalk.i64_in _ (by omega)
                      generalize GB.used = us at HUQ du du' dn hus
                      clear hr_
                      go_wp2_with fail
                      go_quiet (first | exact Calls.quiet_of_same (HUQ.out _) | exact Calls.quiet_of_same (HNQ.out _))
                      go_wp2
                      go_roundw
                      case rel => exact ⟨i + 1, GB, _, by omega, by rw [HNB.out], rfl, Lib.hid ⟨(HFIN.out _).more (by omega), by have h1 := HNI.out; have h2 := HNB.out; omega⟩⟩
                      case measure => simp [intOf]; omega
                  · have df : decide (i < l2.length) = false := decide_eq_false hf
                    have df' : ¬ (i : Int) < (l2.length : Int) := by omega
                    have hr_ := HR11.out
                    have HUQ : Hid (∀ j, Calls Tryz.prog 19 #[.pointer (some ⟨p, 0, none⟩)] (w11.drewN j) fun e w' => e = .returned (.int .i64 (G1.used : Int)) ∧ w' = w11.drewN j) := Lib.hid fun j => (lgused_any (hr_.down (below_drewN (Below.refl _ _) j)).at_.sits).mono fun _ _ ⟨a, b⟩ => ⟨a, b.symm⟩
                    have HNQ : Hid (∀ j, Calls Tryz.prog 15 #[.pointer (some ⟨p, 0, none⟩)] (w11.drewN j) fun e w' => e = .returned (.int .u64 (G.next : Int)) ∧ w' = w11.drewN j) := Lib.hid fun j => by
                      have := lgnext_any (hr_.down (below_drewN (Below.refl _ _) j)).at_.sits
                      rw [HNG.out] at this
                      exact this.mono fun _ _ ⟨a, b⟩ => ⟨a, b.symm⟩
                    have hus : G1.used ≤ 7 := by
                      have h1 := hr_.go.ok.room
                      have h2 := hr_.pl
                      omega
                    have du : decide (7 < G1.used) = false := decide_eq_false (by omega)
                    have du' : decide ((7 : Int) < (G1.used : Int)) = false := decide_eq_false (by omega)
                    have dn : ¬ 7 < G1.used := by omega
                    have z2 : w11.cell? ⟨lb, 2, none⟩ = some (.int .i64 8) := (HLY.out w11 hr_.at_.many).cell 2
                    have HFIN := Lib.hid fun j => hr_.down (below_drewN (Below.refl w11.heap.size w11) j)
                    have e9 : IntKind.i64.wrap ((i : Int) + 1) = ((i + 1 : Nat) : Int) := by rw [show (i : Int) + 1 = ((i + 1 : Nat) : Int) by omega]; exact IntWalk.i64_in _ (by omega)
                    generalize G1.used = us at HUQ du du' dn hus
                    clear hr_
                    go_wp2_with fail
                    go_quiet (first | exact Calls.quiet_of_same (HUQ.out _) | exact Calls.quiet_of_same (HNQ.out _))
                    go_wp2
                    go_roundw
                    case rel => exact ⟨i + 1, G1, _, by omega, by rw [HNG.out], rfl, Lib.hid ⟨(HFIN.out _).more (by omega), by have h1 := HNI.out; have h2 := HNG.out; omega⟩⟩
                    case measure => simp [intOf]; omega
      · have hil : i = l.length := by omega
        have hlt' : ¬ (i : Int) < (l.length : Int) := by omega
        have HB := Lib.hid (HBW.out wr hI.out.1.at_.many)
        clear hI
        go_wp2_with fail
        refine (HAL.out wr).mono ?_
        rintro e w4 ⟨rfl, hb⟩
        have HB4 := Lib.hid (HB.out.trans (hb.mono HB.out.size))
        clear hb
        go_wp2
        go_ret
        exact ⟨rfl, HB4.out⟩
set_option maxRecDepth 100000 in
theorem logRound_lifted (os : Os) (started : os.Started) (H : Type) (enc : TypeId × Value → H) :
    ReturnsInHanded {} Tryz.checked os 4 .any (Rows.logRoundSpec.pre6 enc Tryz.prog Tryz.f4 Rows.logRoundRow.domain false) (Rows.logRoundSpec.post enc Tryz.prog Tryz.f4 false true false false) := by
  refine returnsInHanded_of_change (C := Tryz.checked) own started (by kernel_rfl) Tryz.func4
    (ChangeSpec.witness6 (enc := enc) (C := Tryz.checked) false ⟨#[], #[.slice none 0 0, .slice none 0 0], []⟩ 8 (by kernel_rfl) (by kernel_rfl) (by kernel_rfl) (by kernel_rfl)) ?_
  intro W base args ds gs before hval0 hW _ _
  have hval : ∀ (j : Nat) t v, Tryz.f4.params[j]? = some t → args[j]? = some v → Value.okWide Tryz.prog W .any base t v := hval0
  have hW' := hW
  obtain ⟨p, q, hA0, hV, rfl, hfz, hnd⟩ := hW
  have hA : DataW.TrodAll enc Tryz.prog W 0 (fun _ => true) true Tryz.f4.params.toList args.toList ds p := hA0
  rw [Tryz.params4] at hA hval
  obtain ⟨v0, vs0, d0, ds0, p0, q0, hargs, rfl, rfl, h0, r0⟩ := trodAll_cons hA
  obtain ⟨v1, vs1, d1, ds1, p1, q1, rfl, rfl, rfl, h1, r1⟩ := trodAll_cons r0
  obtain ⟨rfl, rfl, rfl⟩ := trodAll_nil r1
  obtain rfl : args = #[v0, v1] := by cases args; simp_all
  obtain ⟨rfl, rfl⟩ := trodVars_none hV
  have k0 := h0
  have lt0 : ∀ x ∈ p0, x.block < W.heap.size := by obtain ⟨m, hm⟩ := k0; exact DataW.trod_lt m _ _ _ hm
  have k1 := h1
  have lt1 : ∀ x ∈ p1, x.block < W.heap.size := by obtain ⟨m, hm⟩ := k1; exact DataW.trod_lt m _ _ _ hm
  obtain ⟨a0, w0⟩ := ints_open (hval 0 53 v0 rfl rfl) k0
  obtain ⟨a1, w1⟩ := bools_open (hval 1 54 v1 rfl rfl) k1
  clear hA0 hval0
  refine (logRound_walk v0 a0 v1 a1 W w0 w1).mono fun e W' ⟨he, bel⟩ => ?_
  subst he
  exact ⟨_, rfl, _, _, _, [], _, [], hW', trodAll_mk1 (shut_bool Tryz.underlying4 _), (trodAll_cons_mk (Below.trod laidOut (by kernel_rfl) (of_decide_eq_true (by kernel_rfl)) k0 bel lt0) (trodAll_cons_mk (Below.trod laidOut (by kernel_rfl) (of_decide_eq_true (by kernel_rfl)) k1 bel lt1) trodAll_mk0)), rfl, bel.frame _, fun h => by cases h⟩

theorem logRound_said : Rows.LogRoundSaid :=
  OpenClaim.holds_of_wide 4 Tryz.f4 rfl rfl rfl rfl rfl rfl rfl ⟨rfl, rfl, rfl, rfl, rfl⟩ rfl rfl rfl rfl rfl (by kernel_rfl) Tryz.func4 (by kernel_rfl)
    (of_decide_eq_true (by kernel_rfl)) (by unfold Func.isWrapper; first | (rw [if_pos (by decide +kernel)]; kernel_rfl) | (rw [if_neg (by decide +kernel)]; exact ⟨rfl, rfl⟩))
    (fun os started H enc _ => logRound_lifted os started H enc)
#print axioms logRound_said
end Go.Proofs.YtlaclbcckadmkaaGreat
