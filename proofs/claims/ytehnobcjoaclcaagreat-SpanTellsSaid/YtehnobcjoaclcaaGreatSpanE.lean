/- Package span: what is outside of a list (outside), how many blocks it has (total), and whether two lists are the same (slices.Equal). -/
import Derived.Test.YtehnobcjoaclcaaGreatGF
namespace Go.Proofs.YtehnobcjoaclcaaGreat
open Go Go.RowKit SpanP
set_option maxRecDepth 100000
set_option maxHeartbeats 1000000
set_option linter.unusedSimpArgs false

theorem gaps_step (f : Int) (l : List S) (k : Nat) (h : k < l.length) : gaps f (l.drop k) = (f, l[k].1) :: gaps l[k].2 (l.drop (k + 1)) := by
  rw [List.drop_eq_getElem_cons h]; rfl
theorem outside_any (v : Value) (l : List S) (w : World) (h : Spans w v l) (hl : l.length ≤ 1000) :
    Calls Tryz.prog 35 #[v] w fun e w' => ∃ r, e = .returned r ∧ SRow w' w.heap.size r (gaps 0 l) ∧ Below w.heap.size w w' := by
  obtain ⟨A, ca, rfl, ha1, ha2, ha3⟩ := h.read
  obtain ⟨i0, hi, hz0, hz1, hz2⟩ := info_parts (elemS).info
  have hmk := run_make (P := Tryz.prog) w 22 43 i0 _ Tryz.underlying22 hi hz0 .i64 .i64 0 ((l.length + 1 : Nat) : Int) (by omega) (by omega) (by rw [hz2]; omega) (by omega)
  simp only [Int.toNat_natCast, hz1, Int.toNat_zero] at hmk
  have hB := (Below.refl w.heap.size w).alloc (Nat.le_refl _) (.cells (madeCells (Value.agg #[.int .i64 0, .int .i64 0]).cells ((l.length + 1) * 2)) 43)
  have hS := Sits.fresh w 43 (madeCells (Value.agg #[.int .i64 0, .int .i64 0]).cells ((l.length + 1) * 2))
  have hz : (madeCells (Value.agg #[.int .i64 0, .int .i64 0]).cells ((l.length + 1) * 2)).size = (l.length + 1) * 2 := size_madeCells _ _
  generalize madeCells (Value.agg #[.int .i64 0, .int .i64 0]).cells ((l.length + 1) * 2) = cs at hmk hB hS hz
  obtain ⟨g, hg⟩ : ∃ g, g = w.heap.size := ⟨_, rfl⟩
  obtain ⟨w1, hw1⟩ : ∃ w1, w1 = w.alloc (.cells cs 43) := ⟨_, rfl⟩
  obtain ⟨c, hc⟩ : ∃ c, c = l.length + 1 := ⟨_, rfl⟩
  have e0 : IntKind.i64.wrap ((l.length : Int) + 1) = (c : Int) := by rw [IntWalk.i64_in _ (by omega)]; omega
  have hmx : maxLen = 9223372036854775807 := by decide
  rw [← hw1] at hmk hB hS
  rw [← hg] at hmk hS
  rw [← hc] at hmk hz
  have hrow : SRow w1 w.heap.size (.slice (some ⟨g, 0, none⟩) 0 c) [] := Blk.row (cap := c) ⟨cs, hS, hz, fun i hi => by simp at hi⟩ (by omega) (by simp) (by omega)
  have HS := Lib.hid hrow
  have HB := Lib.hid hB
  have HA := Lib.hid ha3
  have HL := Lib.hid hl
  have hcl : (l.length : Int) ≤ 9223372036854775807 := by omega
  clear hi hz0 hz1 hz2 hB hS hz hw1 ha3 h hg hl hrow hmx hc
  go_enter Tryz.func35, Tryz.ntmps35
  go_wp2
  go_loopw [3, 4, 13] (fun o f i wr => ∃ (k : Nat) (acc : List S) (fr : Int), k ≤ l.length ∧ i = .int .i64 k ∧ f = .int .i64 fr ∧ acc ++ gaps fr (l.drop k) = gaps 0 l ∧ acc.length = k ∧ SRow wr w.heap.size o acc ∧ Below w.heap.size w wr) (fun _ _ i _ => l.length - (intOf i).toNat)
  case atStart => exact ⟨0, [], 0, by omega, rfl, rfl, rfl, rfl, HS.out, HB.out⟩
  case round =>
    obtain ⟨k, acc, fr, hk, rfl, rfl, hacc, hal, hR, hB⟩ := hrel
    obtain ⟨AR, cr, rfl, -, -, -, -⟩ := hR.form
    by_cases hlt : k < l.length
    · obtain ⟨b, o, rfl, hb, c0, c1⟩ := HA.out k hlt
      rw [← hB.cell (p := ⟨b, o + k * 2, none⟩) hb] at c0
      rw [← hB.cell (p := ⟨b, o + k * 2 + 1, none⟩) hb] at c1
      rw [gaps_step fr l k hlt] at hacc
      obtain ⟨s, hs⟩ : ∃ s, s = l[k] := ⟨_, rfl⟩
      rw [← hs] at c0 c1 hacc
      have hb5 : Below wr.heap.size wr (wr.alloc (.cells #[.int .i64 s.1, .int .i64 s.2] 43)) := (Below.refl _ wr).alloc (Nat.le_refl _) _
      have s5 := Sits.fresh wr 43 #[.int .i64 s.1, .int .i64 s.2]
      have hs5 : (wr.alloc (.cells #[.int .i64 s.1, .int .i64 s.2] 43)).heap.size = wr.heap.size + 1 := World.size_alloc _ _
      have hlo := hR.lt
      obtain ⟨p5, hp5⟩ : ∃ p, p = wr.heap.size := ⟨_, rfl⟩
      obtain ⟨w5, hw5⟩ : ∃ w', w' = wr.alloc (.cells #[.int .i64 s.1, .int .i64 s.2] 43) := ⟨_, rfl⟩
      rw [← hw5] at hb5 s5 hs5
      rw [← hp5] at s5 hs5
      obtain ⟨A6, c6, w6, hr6, hR6, hB6, hM6, _, _⟩ := pushS_one (hR.below hb5) (fr, s.1) (hB.trans (hb5.mono hB.size)).size (by have := HL.out; omega) 22
      have s6 := s5.many hM6 (fun e => by have := hlo _ e; omega)
      rw [hs5] at hr6
      have HR6 := Lib.hid hR6
      have HB6 := Lib.hid ((hB.trans (hb5.mono hB.size)).trans hB6)
      have z0 := s5.cell 0
      have y1 := s6.cell 1
      simp at z0 y1
      have HACC : Hid ((acc ++ [(fr, s.1)]) ++ gaps s.2 (l.drop (k + 1)) = gaps 0 l) := Lib.hid (by rw [List.append_assoc]; exact hacc)
      clear hb5 s5 hs5 hlo hR6 hB6 hM6 s6 hR hB hs hacc hb
      go_wp2_with (first | (at_builtin; rw [← hw5, ← hp5]; clear hw5 hp5; refine Lib.wpList_append_run _ rfl _ _ _ _ rfl _ _ rfl rfl _ _ hr6 ?_) | fail)
      go_roundw
      case rel => exact ⟨k + 1, _, s.2, by omega, by go_num, rfl, HACC.out, by simp [hal], by rw [← hal]; exact HR6.out, HB6.out⟩
      case measure => simp [intOf]; omega
    · obtain rfl : k = l.length := by omega
      rw [List.drop_length] at hacc
      obtain ⟨A6, c6, w6, hr6, hR6, hB6, _, _, _⟩ := pushS_one hR (fr, 9223372036854775807) hB.size (by have := HL.out; omega) 22
      have HR6 : Hid (SRow w6 w.heap.size (.slice A6 (l.length + 1 : Nat) c6) (gaps 0 l)) := Lib.hid (by rw [← hacc, ← hal]; exact hR6)
      have HB6 := Lib.hid (hB.trans hB6)
      clear hR hB hR6 hB6 hacc
      go_wp2_with (at_builtin; refine Lib.wpList_append_run _ rfl _ _ _ _ rfl _ _ rfl rfl _ _ hr6 ?_)
      go_ret
      exact ⟨_, rfl, HR6.out, HB6.out⟩
theorem count_take {l : List S} (hn : SpanP.Norm l) (hl : Lim l) (k : Nat) : 0 ≤ count (l.take k) ∧ count (l.take k) ≤ 9223372036854775807 := by
  have hn' : SpanP.Norm (l.take k) := by
    have := hn
    rw [← List.take_append_drop k l] at this
    exact this.front
  have := count_bound (l := l.take k) 0 hn' (fun s hs => hl s (List.mem_of_mem_take hs)) hn'.nonneg (by unfold top; omega)
  unfold top at this
  omega
theorem total_any (v : Value) (l : List S) (w : World) (h : Spans w v l) (hn : SpanP.Norm l) (hl : Lim l) :
    Calls Tryz.prog 39 #[v] w fun e w' => e = .returned (.int .i64 (count l)) ∧ Below w.heap.size w w' := by
  obtain ⟨A, ca, rfl, ha1, ha2, ha3⟩ := h.read
  have HA := Lib.hid ha3
  have HC := Lib.hid (count_take hn hl)
  have HN := Lib.hid (And.intro hn hl)
  have hcl : (l.length : Int) ≤ 9223372036854775807 := by omega
  clear ha3 h hn hl
  go_enter Tryz.func39, Tryz.ntmps39
  go_wp2
  go_loopw [3, 8] (fun c i wr => ∃ (k : Nat) (r : Int), k ≤ l.length ∧ i = .int .i64 k ∧ c = .int .i64 r ∧ r = count (l.take k) ∧ Below w.heap.size w wr) (fun _ i _ => l.length - (intOf i).toNat)
  case atStart => exact ⟨0, 0, by omega, rfl, rfl, rfl, Below.refl _ _⟩
  case round =>
    obtain ⟨k, r, hk, rfl, rfl, hr, hB⟩ := hrel
    by_cases hlt : k < l.length
    · obtain ⟨b, o, rfl, hb, c0, c1⟩ := HA.out k hlt
      rw [← hB.cell (p := ⟨b, o + k * 2, none⟩) hb] at c0
      rw [← hB.cell (p := ⟨b, o + k * 2 + 1, none⟩) hb] at c1
      have hcs := HC.out (k + 1)
      have hok := HN.out.1.ok l[k] (List.getElem_mem hlt)
      have hli := HN.out.2 l[k] (List.getElem_mem hlt)
      rw [List.take_succ_eq_append_getElem hlt, count_append, ← hr] at hcs
      have hsum : count [l[k]] = lenS l[k] := by unfold lenS; rw [if_pos hok]; simp [count]
      rw [hsum] at hcs
      have hnx : count (l.take (k + 1)) = r + lenS l[k] := by rw [List.take_succ_eq_append_getElem hlt, count_append, ← hr, hsum]
      obtain ⟨s, hs⟩ : ∃ s, s = l[k] := ⟨_, rfl⟩
      rw [← hs] at c0 c1 hcs hnx hli
      obtain ⟨q, hq⟩ : ∃ q, q = lenS s := ⟨_, rfl⟩
      have hlen : ∀ W : World, Calls Tryz.prog 7 #[.agg #[.int .i64 s.1, .int .i64 s.2]] W fun e w' => e = .returned (.int .i64 q) ∧ ∃ q os, w' = Sort.grow (W.drewN q) os := by rw [hq]; exact len_any s hli
      rw [← hq] at hcs hnx
      have e1 : IntKind.i64.wrap (r + q) = r + q := by rw [IntWalk.i64_in _ (by omega)]
      have hb5 := hB.alloc hB.size (.cells #[.int .i64 s.1, .int .i64 s.2] 43)
      have s5 := Sits.fresh wr 43 #[.int .i64 s.1, .int .i64 s.2]
      obtain ⟨p5, hp5⟩ : ∃ p, p = wr.heap.size := ⟨_, rfl⟩
      obtain ⟨w5, hw5⟩ : ∃ w', w' = wr.alloc (.cells #[.int .i64 s.1, .int .i64 s.2] 43) := ⟨_, rfl⟩
      rw [← hw5] at hb5
      have HB5 := Lib.hid hb5
      have HNX := Lib.hid hnx
      clear hB hb hcs hok hsum hnx hs hq hb5 hr s5 hli
      go_wp2_with fail
      rw [← hw5, ← hp5]
      clear hw5 hp5 c0 c1
      refine (hlen _).mono ?_
      rintro e w6 ⟨rfl, hg⟩
      have HB6 := Lib.hid (HB5.out.trans ((grown_below hg).mono HB5.out.size))
      clear hg hlen
      go_wp2
      go_roundw
      case rel => exact ⟨k + 1, _, by omega, by go_num, rfl, HNX.out.symm, HB6.out⟩
      case measure => simp [intOf]; omega
    · obtain rfl : k = l.length := by omega
      rw [List.take_length] at hr
      subst hr
      have HB9 := Lib.hid hB
      clear hB
      go_wp2
      go_ret
      exact ⟨rfl, HB9.out⟩
theorem equalS_any (u v : Value) (l m : List S) (w : World) (hu : Spans w u l) (hv : Spans w v m) :
    Calls Tryz.prog 38 #[u, v] w fun e w' => e = .returned (.bool (decide (l = m))) ∧ ∃ n, w' = w.drewN n := by
  obtain ⟨A, ca, rfl, ha1, ha2, ha3⟩ := hu.read
  obtain ⟨B, cb, rfl, hb1, hb2, hb3⟩ := hv.read
  have hlen : (l.length : Int) ≤ 9223372036854775807 := by omega
  by_cases hlm : l.length = m.length
  · have HLM := Lib.hid hlm
    have HA := Lib.hid ha3
    have HB := Lib.hid hb3
    rw [← hlm] at hb1 ⊢
    clear ha3 hb3 hu hv hlm
    go_enter Tryz.func38, Tryz.ntmps38
    go_wp2
    go_loopw [13] (fun i wr => ∃ k : Nat, k ≤ l.length ∧ i = .int .i64 k ∧ l.take k = m.take k ∧ ∃ n, wr = w.drewN n) (fun i _ => l.length - (intOf i).toNat)
    case atStart => exact ⟨0, by omega, rfl, by simp, 0, rfl⟩
    case round =>
      obtain ⟨k, hk, rfl, htk, n, rfl⟩ := hrel
      have HTK := Lib.hid htk
      clear htk
      by_cases hlt : k < l.length
      · obtain ⟨b, o, rfl, _, hcb, hcc⟩ := HA.out k hlt
        obtain ⟨b', o', rfl, _, hcb', hcc'⟩ := HB.out k (by have := HLM.out; omega)
        have HK : Hid (l[k] = m[k]'(by have := HLM.out; omega) ↔ (l[k].1 = (m[k]'(by have := HLM.out; omega)).1 ∧ l[k].2 = (m[k]'(by have := HLM.out; omega)).2)) := Lib.hid Prod.ext_iff
        have hne : l[k] ≠ m[k]'(by have := HLM.out; omega) → l ≠ m := fun h1 h2 => h1 (by subst h2; rfl)
        have hnx : l[k] = m[k]'(by have := HLM.out; omega) → l.take (k + 1) = m.take (k + 1) := fun h1 => by
          rw [List.take_succ_eq_append_getElem hlt, List.take_succ_eq_append_getElem (by have := HLM.out; omega), HTK.out, h1]
        have HNE := Lib.hid hne
        have HNX := Lib.hid hnx
        clear hne hnx
        generalize hp : l[k].1 = p at hcb HK
        generalize hq : l[k].2 = q at hcc HK
        generalize hp' : (m[k]'(by have := HLM.out; omega)).1 = p' at hcb' HK
        generalize hq' : (m[k]'(by have := HLM.out; omega)).2 = q' at hcc' HK
        clear hp hq hp' hq'
        by_cases e1 : p = p'
        · by_cases e2 : q = q'
          · have HN := Lib.hid (HNX.out (HK.out.2 ⟨e1, e2⟩))
            subst e1 e2
            go_wp2
            go_quiet (fail)
            go_wp2
            go_roundw
            case rel => exact ⟨k + 1, by omega, by go_num, HN.out, _, rfl⟩
            case measure => simp [intOf]; omega
          · have HN := Lib.hid (HNE.out (fun e => e2 (HK.out.1 e).2))
            subst e1
            have d2 : (q == q') = false := beq_eq_false_iff_ne.2 e2
            go_wp2
            go_quiet (fail)
            go_wp2
            go_ret
            exact ⟨by rw [decide_eq_false HN.out]; rfl, _, by simp only [World.drewN, Nat.add_assoc]; rfl⟩
        · have HN := Lib.hid (HNE.out (fun e => e1 (HK.out.1 e).1))
          have d1 : (p == p') = false := beq_eq_false_iff_ne.2 e1
          go_wp2
          go_quiet (fail)
          go_wp2
          go_ret
          exact ⟨by rw [decide_eq_false HN.out]; rfl, _, by simp only [World.drewN, Nat.add_assoc]; rfl⟩
      · obtain rfl : k = l.length := by omega
        have HN : Hid (l = m) := Lib.hid (by
          have := HTK.out
          rwa [List.take_length, HLM.out, List.take_length] at this)
        go_wp2
        go_ret
        exact ⟨by rw [decide_eq_true HN.out]; rfl, n, rfl⟩
  · have hne : l ≠ m := fun e => hlm (by rw [e])
    have HN := Lib.hid hne
    have d1 : ((l.length : Int) == (m.length : Int)) = false := beq_eq_false_iff_ne.2 (by omega)
    have d2 : (l.length == m.length) = false := beq_eq_false_iff_ne.2 hlm
    clear hne hu hv
    go_enter Tryz.func38, Tryz.ntmps38
    go_wp2
    go_ret
    exact ⟨by rw [decide_eq_false HN.out]; rfl, 0, rfl⟩
end Go.Proofs.YtehnobcjoaclcaaGreat
