/- SpanFew: spans are as few as it takes: they rise, and none touches the next one; each block of theirs was in one of those that were handed in, and back; whatever the list and the block are. -/
import Derived.Test.YtbaldeaejnmdpaaSAlive
import Derived.Test.YtbaldeaejnmdpaaTail
import Derived.OpenShut
import Derived.ChangeOld
namespace Go.Proofs.Ytbaldeaejnmdpaa
open Go Go.RowKit Go.ChangeShapes Go.WideShapes SpanP
set_option maxRecDepth 100000
set_option maxHeartbeats 4000000
set_option linter.unusedSimpArgs false

theorem in_take {l : List S} {k : Nat} (h : k < l.length) {c : Int} : In (l.take (k + 1)) c ↔ In (l.take k) c ∨ Has l[k] c := by
  rw [List.take_succ_eq_append_getElem h, in_snoc]
theorem norm_next {m : List S} (h : SpanP.Norm m) {j k : Nat} (hk : k = j + 1) (hl : k < m.length) : m[j].2 < m[k].1 := by
  subst hk
  exact List.pairwise_iff_getElem.1 h.up j (j + 1) (by omega) hl (by omega)
theorem spanFew_walk (v : Value) (l : List S) (c : Int) (_wc : (Lit.int .i64 c).wf = true) (w : World)
    (h0 : (∀ s ∈ l, (-9223372036854775808 ≤ s.1 ∧ s.1 ≤ 9223372036854775807) ∧ (-9223372036854775808 ≤ s.2 ∧ s.2 ≤ 9223372036854775807)) ∧ Spans w v l) :
    Calls Try.prog 4 #[v, .int .i64 c] w fun e w' => e = .returned (.bool true) ∧ Below w.heap.size w w' := by
  clear _wc
  obtain ⟨-, hs⟩ := h0
  have HS := Lib.hid hs
  obtain ⟨A, ca, rfl, ha1, ha2, ha3⟩ := hs.read
  have HA := Lib.hid ha3
  clear ha3 hs
  by_cases hl : (l.length : Int) > 60
  · clear HA HS
    go_enter Try.func4, Try.ntmps4
    go_wp2_with fail
    refine (alive6_any _).mono ?_
    rintro e w1 ⟨rfl, hb⟩
    have HB := Lib.hid hb
    clear hb
    go_wp2
    go_ret
    exact ⟨rfl, HB.out⟩
  have hno := norm_any _ l w HS.out (by omega)
  have HL : Hid (l.length ≤ 60) := Lib.hid (by omega)
  have d0 : decide ((l.length : Int) > 60) = false := decide_eq_false hl
  clear hl
  go_enter Try.func4, Try.ntmps4
  go_wp2_with fail
  refine hno.mono ?_
  rintro e w1 ⟨m, g, cap, rfl, hset, hg, hblk, h1, h2, h3, hb⟩
  have hcap : (cap : Int) ≤ 1000 := by omega
  have HM := Lib.hid ((hblk.spans h2 (by omega)).read)
  have HK := Lib.hid hblk
  have HSET := Lib.hid hset
  have HB1 := Lib.hid hb
  have HML : Hid (m.length ≤ 60) := Lib.hid (by have := HL.out; omega)
  have hml : (m.length : Int) ≤ 1000 := by omega
  have hmc : m.length ≤ cap := h2
  clear hno hset hblk h1 hb h3 hg h2
  go_wp2
  go_loopw [6, 8] (fun q i wr => ∃ (k : Nat) (r : Bool), k ≤ m.length ∧ i = .int .i64 k ∧ q = .bool r ∧ (r = true ↔ In (m.take k) c) ∧ Below w1.heap.size w1 wr) (fun _ i _ => m.length - (intOf i).toNat)
  case atStart => exact ⟨0, false, by omega, rfl, rfl, by simp [not_in_nil], Below.refl _ _⟩
  case round =>
    obtain ⟨k, r, hk, rfl, rfl, hr, hB⟩ := hrel
    by_cases hlt : k < m.length
    · have hrd : ∀ i (hi : i < m.length), wr.cell? ⟨g, i * 2, none⟩ = some (.int .i64 m[i].1) ∧ wr.cell? ⟨g, i * 2 + 1, none⟩ = some (.int .i64 m[i].2) := fun i hi => by
        obtain ⟨cur, hc, hz, hat⟩ := HK.out.below hB
        rw [hc.cell, hc.cell]
        exact hat i hi
      have hgl : g < wr.heap.size := Nat.lt_of_lt_of_le HK.out.lt hB.size
      have hok := HSET.out.norm.ok m[k] (List.getElem_mem hlt)
      have hit := in_take hlt (c := c)
      obtain ⟨c0, c1⟩ := hrd k hlt
      have hpr : ∀ j, k = j + 1 → wr.cell? ⟨g, j * 2 + 1, none⟩ = some (.int .i64 (m.getD j (0, 0)).2) ∧ decide ((m.getD j (0, 0)).2 ≥ m[k].1) = false := fun j hj => by
        have h1 := norm_next HSET.out.norm hj hlt
        have hjl : j < m.length := by omega
        rw [List.getD_eq_getElem?_getD, List.getElem?_eq_getElem hjl]
        exact ⟨(hrd j hjl).2, decide_eq_false (by simp only [Option.getD_some]; omega)⟩
      obtain ⟨s, hs⟩ : ∃ s, s = m[k] := ⟨_, rfl⟩
      rw [← hs] at c0 c1 hok hit hpr
      have hv : ∀ W : World, Calls Try.prog 15 #[.agg #[.int .i64 s.1, .int .i64 s.2]] W fun e w' => e = .returned (.bool true) ∧ ∃ q os, w' = Sort.grow (W.drewN q) os := fun W => by
        have := valid_any s W
        rwa [decide_eq_true hok] at this
      have hh : ∀ W : World, Calls Try.prog 16 #[.agg #[.int .i64 s.1, .int .i64 s.2], .int .i64 c] W fun e w' => e = .returned (.bool (decide (Has s c))) ∧ ∃ q os, w' = Sort.grow (W.drewN q) os := has_any s c
      have HR := Lib.hid hr
      have HB := Lib.hid hB
      have HIT := Lib.hid hit
      have HV := Lib.hid hv
      have HH := Lib.hid hh
      have HC := Lib.hid (And.intro c0 c1)
      have HG := Lib.hid hgl
      have HPR := Lib.hid hpr
      clear hr hB hit hok hs hrd hv hh c0 c1 hgl hpr
      rcases Nat.eq_zero_or_pos k with hz | hpos
      · have hk0 : decide ((k : Int) > 0) = false := decide_eq_false (by omega)
        have HZ : Hid (¬ 0 < k) := Lib.hid (by omega)
        clear hz
        go_wp2_with fail
        refine wp_region_ex (by kernel_rfl) (fun W => Below wr.heap.size wr W) (fun W W' => Below W.heap.size W W')
          [[(5, none)], [(8, none)], [(23, some 0), (24, some 1)], [(25, some 2)], [(26, some 3)], [(27, some 4)], [(28, some 5)], [(8, none), (29, some 6)], [(29, some 6), (30, some 7)], [(29, some 6), (31, some 8)], [(5, none), (32, some 9)], [(8, none), (32, some 9)], [(32, some 9), (34, some 11)], [(32, some 9), (33, some 10), (35, some 12)], [(32, some 9), (36, some 13)], [(32, some 9), (37, some 14)], [(5, none), (32, some 9)], [(8, none), (32, some 9)], [(32, some 9), (39, some 16), (40, some 17)], [(32, some 9), (41, some 18)], [(32, some 9), (42, some 19)], [(32, some 9), (38, some 15), (43, some 20)], [(29, some 6), (32, some 9), (44, some 21)], [(29, some 6), (45, some 22)]]
          [none, none, none, none, none, none, none, none, none, none, none, none, none, none, none, none, none, none, none, none, none, none, none, some 0, some 1, some 2, some 3, some 4, some 5, some 6, some 7, some 8, some 9, some 10, some 11, some 12, some 13, some 14, some 15, some 16, some 17, some 18, some 19, some 20, some 21, some 22, some 23, none, none, none, none, none, none, none, none, none, none, none, none, none, none, none, none, none, none, none, none, none, none, none, none, none, none, none, none, none, none, none, none, none, none, none, none, none, none, none] (by kernel_rfl) (by kernel_rfl) ((Below.refl _ wr).drew) ?_
        iterate 4
          refine ex_pure (c := ?_) (fun W _ => Below.refl _ W) ?_ ?_
          rotate_left
          · intro a' W hR hF
            simp only [FactsOf, List.nil_append, List.cons_append, List.getD_cons_zero, List.getD_cons_succ, exists_eq_left, and_true, List.getElem?_toArray, List.getElem?_cons_zero, List.getElem?_cons_succ] at hF
            have k0 := (hR.cell (p := ⟨g, k * 2, none⟩) HG.out).trans HC.out.1
            have k1 := (hR.cell (p := ⟨g, k * 2 + 1, none⟩) HG.out).trans HC.out.2
            refine ⟨?_, ?_⟩
            · simp [Region.wanted, yielded, hF]
            · go_simp
              with_reducible rfl
        refine ex_callx (.bool true) (fun a' W hR hF => ?_) ?_
        · simp only [FactsOf, List.nil_append, List.cons_append, List.getD_cons_zero, List.getD_cons_succ, exists_eq_left, and_true, List.getElem?_toArray, List.getElem?_cons_zero, List.getElem?_cons_succ] at hF
          exact ⟨by simp [Region.wanted, yielded, hF], 15, #[.agg #[.int .i64 s.1, .int .i64 s.2]], by go_simp, (HV.out W).mono fun e w' ⟨he, hb⟩ => ⟨he, hR.trans ((grown_below hb).mono hR.size), grown_below hb⟩⟩
        iterate 5
          refine ex_pure (c := ?_) (fun W _ => Below.refl _ W) ?_ ?_
          rotate_left
          · intro a' W hR hF
            simp only [FactsOf, List.nil_append, List.cons_append, List.getD_cons_zero, List.getD_cons_succ, exists_eq_left, and_true, List.getElem?_toArray, List.getElem?_cons_zero, List.getElem?_cons_succ] at hF
            have k0 := (hR.cell (p := ⟨g, k * 2, none⟩) HG.out).trans HC.out.1
            have k1 := (hR.cell (p := ⟨g, k * 2 + 1, none⟩) HG.out).trans HC.out.2
            refine ⟨?_, ?_⟩
            · simp [Region.wanted, yielded, hF]
            · go_simp
              with_reducible rfl
        iterate 12
          refine ex_skip (fun W _ => Below.refl _ W) ?_ ?_
          · intro a' W hR hF
            simp only [FactsOf, List.nil_append, List.cons_append, List.getD_cons_zero, List.getD_cons_succ, exists_eq_left, and_true, List.getElem?_toArray, List.getElem?_cons_zero, List.getElem?_cons_succ] at hF
            simp [Region.wanted, yielded, hF, HZ.out, undef]
        iterate 2
          refine ex_pure (c := ?_) (fun W _ => Below.refl _ W) ?_ ?_
          rotate_left
          · intro a' W hR hF
            simp only [FactsOf, List.nil_append, List.cons_append, List.getD_cons_zero, List.getD_cons_succ, exists_eq_left, and_true, List.getElem?_toArray, List.getElem?_cons_zero, List.getElem?_cons_succ] at hF
            have k0 := (hR.cell (p := ⟨g, k * 2, none⟩) HG.out).trans HC.out.1
            have k1 := (hR.cell (p := ⟨g, k * 2 + 1, none⟩) HG.out).trans HC.out.2
            refine ⟨?_, ?_⟩
            · simp [Region.wanted, yielded, hF, HZ.out]
            · go_simp
              with_reducible rfl
        show ∀ W, _ → _
        intro W hR
        simp only [FinOf, List.nil_append, List.cons_append, List.getD_cons_zero, List.getD_cons_succ, forall_eq, forall_exists_index, and_imp, Nat.reduceAdd, Array.getD_eq_getD_getElem?, List.getElem?_toArray, List.getElem?_cons_zero, List.getElem?_cons_succ, Option.getD_some]
        have k0 := (hR.cell (p := ⟨g, k * 2, none⟩) HG.out).trans HC.out.1
        have k1 := (hR.cell (p := ⟨g, k * 2 + 1, none⟩) HG.out).trans HC.out.2
        have HBW := Lib.hid (HB.out.trans (hR.mono HB.out.size))
        clear hR
        cases r
        · go_wp2_with fail
          refine (HH.out _).mono ?_
          rintro e w6 ⟨rfl, hg⟩
          have HB6 := Lib.hid (HBW.out.trans ((grown_below hg).mono HBW.out.size))
          clear hg k0 k1
          go_wp2
          go_roundw
          case rel => exact ⟨k + 1, _, by omega, by go_num, rfl, by rw [HIT.out, ← HR.out]; simp, HB6.out⟩
          case measure => simp [intOf]; omega
        · clear k0 k1
          go_wp2
          go_roundw
          case rel => exact ⟨k + 1, true, by omega, by go_num, rfl, by rw [HIT.out, ← HR.out]; simp, HBW.out⟩
          case measure => simp [intOf]; omega
      · obtain ⟨j, hj⟩ : ∃ j, k = j + 1 := ⟨k - 1, by omega⟩
        obtain ⟨hcj, dj⟩ := HPR.out j hj
        generalize (m.getD j (0, 0)).2 = u at hcj dj
        have HCJ := Lib.hid hcj
        have e1 : IntKind.i64.wrap ((k : Int) - 1) = (j : Int) := by rw [IntWalk.i64_in _ (by omega)]; omega
        have hjm : j < m.length := by omega
        have hk0 : decide ((k : Int) > 0) = true := decide_eq_true (by omega)
        have hkj : Hid (k = j + 1) := Lib.hid hj
        have HPOS := Lib.hid hpos
        clear hj hcj hpos
        go_wp2_with fail
        refine wp_region_ex (by kernel_rfl) (fun W => Below wr.heap.size wr W) (fun W W' => Below W.heap.size W W')
          [[(5, none)], [(8, none)], [(23, some 0), (24, some 1)], [(25, some 2)], [(26, some 3)], [(27, some 4)], [(28, some 5)], [(8, none), (29, some 6)], [(29, some 6), (30, some 7)], [(29, some 6), (31, some 8)], [(5, none), (32, some 9)], [(8, none), (32, some 9)], [(32, some 9), (34, some 11)], [(32, some 9), (33, some 10), (35, some 12)], [(32, some 9), (36, some 13)], [(32, some 9), (37, some 14)], [(5, none), (32, some 9)], [(8, none), (32, some 9)], [(32, some 9), (39, some 16), (40, some 17)], [(32, some 9), (41, some 18)], [(32, some 9), (42, some 19)], [(32, some 9), (38, some 15), (43, some 20)], [(29, some 6), (32, some 9), (44, some 21)], [(29, some 6), (45, some 22)]]
          [none, none, none, none, none, none, none, none, none, none, none, none, none, none, none, none, none, none, none, none, none, none, none, some 0, some 1, some 2, some 3, some 4, some 5, some 6, some 7, some 8, some 9, some 10, some 11, some 12, some 13, some 14, some 15, some 16, some 17, some 18, some 19, some 20, some 21, some 22, some 23, none, none, none, none, none, none, none, none, none, none, none, none, none, none, none, none, none, none, none, none, none, none, none, none, none, none, none, none, none, none, none, none, none, none, none, none, none, none, none] (by kernel_rfl) (by kernel_rfl) ((Below.refl _ wr).drew) ?_
        iterate 4
          refine ex_pure (c := ?_) (fun W _ => Below.refl _ W) ?_ ?_
          rotate_left
          · intro a' W hR hF
            simp only [FactsOf, List.nil_append, List.cons_append, List.getD_cons_zero, List.getD_cons_succ, exists_eq_left, and_true, List.getElem?_toArray, List.getElem?_cons_zero, List.getElem?_cons_succ] at hF
            have k0 := (hR.cell (p := ⟨g, k * 2, none⟩) HG.out).trans HC.out.1
            have k1 := (hR.cell (p := ⟨g, k * 2 + 1, none⟩) HG.out).trans HC.out.2
            refine ⟨?_, ?_⟩
            · simp [Region.wanted, yielded, hF]
            · go_simp
              with_reducible rfl
        refine ex_callx (.bool true) (fun a' W hR hF => ?_) ?_
        · simp only [FactsOf, List.nil_append, List.cons_append, List.getD_cons_zero, List.getD_cons_succ, exists_eq_left, and_true, List.getElem?_toArray, List.getElem?_cons_zero, List.getElem?_cons_succ] at hF
          exact ⟨by simp [Region.wanted, yielded, hF], 15, #[.agg #[.int .i64 s.1, .int .i64 s.2]], by go_simp, (HV.out W).mono fun e w' ⟨he, hb⟩ => ⟨he, hR.trans ((grown_below hb).mono hR.size), grown_below hb⟩⟩
        iterate 19
          refine ex_pure (c := ?_) (fun W _ => Below.refl _ W) ?_ ?_
          rotate_left
          · intro a' W hR hF
            simp only [FactsOf, List.nil_append, List.cons_append, List.getD_cons_zero, List.getD_cons_succ, exists_eq_left, and_true, List.getElem?_toArray, List.getElem?_cons_zero, List.getElem?_cons_succ] at hF
            have k0 := (hR.cell (p := ⟨g, k * 2, none⟩) HG.out).trans HC.out.1
            have k1 := (hR.cell (p := ⟨g, k * 2 + 1, none⟩) HG.out).trans HC.out.2
            have kj := (hR.cell (p := ⟨g, j * 2 + 1, none⟩) HG.out).trans HCJ.out
            refine ⟨?_, ?_⟩
            · simp [Region.wanted, yielded, hF, HPOS.out]
            · go_simp
              with_reducible rfl
        show ∀ W, _ → _
        intro W hR
        simp only [FinOf, List.nil_append, List.cons_append, List.getD_cons_zero, List.getD_cons_succ, forall_eq, forall_exists_index, and_imp, Nat.reduceAdd, Array.getD_eq_getD_getElem?, List.getElem?_toArray, List.getElem?_cons_zero, List.getElem?_cons_succ, Option.getD_some]
        have k0 := (hR.cell (p := ⟨g, k * 2, none⟩) HG.out).trans HC.out.1
        have k1 := (hR.cell (p := ⟨g, k * 2 + 1, none⟩) HG.out).trans HC.out.2
        have HBW := Lib.hid (HB.out.trans (hR.mono HB.out.size))
        clear hR
        cases r
        · go_wp2_with fail
          refine (HH.out _).mono ?_
          rintro e w6 ⟨rfl, hg⟩
          have HB6 := Lib.hid (HBW.out.trans ((grown_below hg).mono HBW.out.size))
          clear hg k0 k1
          go_wp2
          go_roundw
          case rel => exact ⟨k + 1, _, by omega, by go_num, rfl, by rw [HIT.out, ← HR.out]; simp, HB6.out⟩
          case measure => simp [intOf]; omega
        · clear k0 k1
          go_wp2
          go_roundw
          case rel => exact ⟨k + 1, true, by omega, by go_num, rfl, by rw [HIT.out, ← HR.out]; simp, HBW.out⟩
          case measure => simp [intOf]; omega
    · obtain rfl : k = m.length := by omega
      rw [List.take_length] at hr
      have HR := Lib.hid (hr.trans (HSET.out.mem c))
      have HBm := Lib.hid (HB1.out.trans (hB.mono HB1.out.size))
      have HBw := Lib.hid hB
      clear hr hB hlt hk
      go_wp2
      go_loopw [7, 9] (fun q i wr => ∃ (k : Nat) (r : Bool), k ≤ l.length ∧ i = .int .i64 k ∧ q = .bool r ∧ (r = true ↔ In (l.take k) c) ∧ Below w.heap.size w wr ∧ Below w1.heap.size w1 wr) (fun _ i _ => l.length - (intOf i).toNat)
      case atStart => exact ⟨0, false, by omega, rfl, rfl, by simp [not_in_nil], HBm.out, HBw.out⟩
      case round =>
        obtain ⟨k, q, hk, rfl, rfl, hq, hB, hB1⟩ := hrel
        by_cases hlt : k < l.length
        · obtain ⟨b, o, rfl, hb, c0, c1⟩ := HA.out k hlt
          rw [← hB.cell (p := ⟨b, o + k * 2, none⟩) hb] at c0
          rw [← hB.cell (p := ⟨b, o + k * 2 + 1, none⟩) hb] at c1
          have hit := in_take hlt (c := c)
          obtain ⟨s, hs⟩ : ∃ s, s = l[k] := ⟨_, rfl⟩
          rw [← hs] at c0 c1 hit
          have hh : ∀ W : World, Calls Try.prog 16 #[.agg #[.int .i64 s.1, .int .i64 s.2], .int .i64 c] W fun e w' => e = .returned (.bool (decide (Has s c))) ∧ ∃ q os, w' = Sort.grow (W.drewN q) os := has_any s c
          have HQ := Lib.hid hq
          have HBQ := Lib.hid (And.intro hB hB1)
          have HIT := Lib.hid hit
          have HH := Lib.hid hh
          clear hq hB hB1 hit hs hh hb
          cases q
          · go_wp2_with fail
            refine (HH.out _).mono ?_
            rintro e w6 ⟨rfl, hg⟩
            have HB6 := Lib.hid (And.intro (HBQ.out.1.trans ((grown_below hg).mono HBQ.out.1.size)) (HBQ.out.2.trans ((grown_below hg).mono HBQ.out.2.size)))
            clear hg c0 c1
            go_wp2
            go_roundw
            case rel => exact ⟨k + 1, _, by omega, by go_num, rfl, by rw [HIT.out, ← HQ.out]; simp, HB6.out.1, HB6.out.2⟩
            case measure => simp [intOf]; omega
          · clear c0 c1
            go_wp2
            go_roundw
            case rel => exact ⟨k + 1, true, by omega, by go_num, rfl, by rw [HIT.out, ← HQ.out]; simp, HBQ.out.1, HBQ.out.2⟩
            case measure => simp [intOf]; omega
        · obtain rfl : k = l.length := by omega
          rw [List.take_length] at hq
          obtain rfl : r = q := Bool.eq_iff_iff.2 (HR.out.trans hq.symm)
          have hno2 := norm_any _ m _ (((HK.out.spans hmc (by omega)).below hB1)) (by have := HML.out; omega)
          have HB9 := Lib.hid hB
          clear hq hB hB1 hk hlt
          go_wp2_with fail
          refine hno2.mono ?_
          rintro e w8 ⟨n, g2, cap2, rfl, hset2, hg2, hblk2, i1, i2, i3, hb⟩
          obtain rfl : n = m := hset2.eq HSET.out.norm.set fun _ => Iff.rfl
          have HB10 := Lib.hid (HB9.out.trans (hb.mono HB9.out.size))
          clear hno2 hset2 hg2 hblk2 i1 i2 i3 hb
          go_wp2_with fail
          refine (alive6_any _).mono ?_
          rintro e w9 ⟨rfl, hb⟩
          have HB11 := Lib.hid (HB10.out.trans (hb.mono HB10.out.size))
          clear hb
          go_wp2
          go_ret
          exact ⟨rfl, HB11.out⟩
set_option maxRecDepth 100000 in
theorem spanFew_lifted (os : Os) (started : os.Started) (H : Type) (enc : TypeId × Value → H) :
    ReturnsInHanded {} Try.checked os 4 .any (Rows.spanFewSpec.pre6 enc Try.prog Try.f4 Rows.spanFewRow.domain false) (Rows.spanFewSpec.post enc Try.prog Try.f4 false true false false) := by
  refine returnsInHanded_of_change (C := Try.checked) own started (by kernel_rfl) Try.func4
    (ChangeSpec.witness6 (enc := enc) (C := Try.checked) false ⟨#[], #[.slice none 0 0, .int .i64 0], []⟩ 8 (by kernel_rfl) (by kernel_rfl) (by kernel_rfl) (by kernel_rfl)) ?_
  intro W base args ds gs before hval0 hW _ _
  have hval : ∀ (j : Nat) t v, Try.f4.params[j]? = some t → args[j]? = some v → Value.okWide Try.prog W .any base t v := hval0
  have hW' := hW
  obtain ⟨p, q, hA0, hV, rfl, hfz, hnd⟩ := hW
  have hA : DataW.TrodAll enc Try.prog W 0 (fun _ => true) true Try.f4.params.toList args.toList ds p := hA0
  rw [Try.params4] at hA hval
  obtain ⟨v0, vs0, d0, ds0, p0, q0, hargs, rfl, rfl, h0, r0⟩ := trodAll_cons hA
  obtain ⟨v1, vs1, d1, ds1, p1, q1, rfl, rfl, rfl, h1, r1⟩ := trodAll_cons r0
  obtain ⟨rfl, rfl, rfl⟩ := trodAll_nil r1
  obtain rfl : args = #[v0, v1] := by cases args; simp_all
  obtain ⟨rfl, rfl⟩ := trodVars_none hV
  have k0 := h0
  have lt0 : ∀ x ∈ p0, x.block < W.heap.size := by obtain ⟨m, hm⟩ := k0; exact DataW.trod_lt m _ _ _ hm
  have k1 := h1
  have lt1 : ∀ x ∈ p1, x.block < W.heap.size := by obtain ⟨m, hm⟩ := k1; exact DataW.trod_lt m _ _ _ hm
  obtain ⟨a0, w0⟩ := spans_open (hval 0 22 v0 rfl rfl) k0
  obtain ⟨a1, rfl, rfl, rfl, w1⟩ := open_int Try.underlying3 (hval 1 3 v1 rfl rfl) h1
  clear hA0 hval0
  refine (spanFew_walk v0 a0 a1 w1 W w0).mono fun e W' ⟨he, bel⟩ => ?_
  subst he
  exact ⟨_, rfl, _, _, _, [], _, [], hW', trodAll_mk1 (shut_bool Try.underlying4 _), (trodAll_cons_mk (Below.trod laidOut (by kernel_rfl) (of_decide_eq_true (by kernel_rfl)) k0 bel lt0) (trodAll_cons_mk (Below.trod laidOut (by kernel_rfl) (of_decide_eq_true (by kernel_rfl)) k1 bel lt1) trodAll_mk0)), rfl, bel.frame _, fun h => by cases h⟩

theorem spanFew_said : Rows.SpanFewSaid :=
  OpenClaim.holds_of_wide 4 Try.f4 rfl rfl rfl rfl rfl rfl rfl ⟨rfl, rfl, rfl, rfl, rfl⟩ rfl rfl rfl rfl rfl (by kernel_rfl) Try.func4 (by kernel_rfl)
    (of_decide_eq_true (by kernel_rfl)) (by unfold Func.isWrapper; first | (rw [if_pos (by decide +kernel)]; kernel_rfl) | (rw [if_neg (by decide +kernel)]; exact ⟨rfl, rfl⟩))
    (fun os started H enc _ => spanFew_lifted os started H enc)
end Go.Proofs.Ytbaldeaejnmdpaa
