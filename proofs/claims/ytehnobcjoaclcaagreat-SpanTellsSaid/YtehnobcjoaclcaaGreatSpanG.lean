/- Package span: all blocks of a list, one by one: Blocks. -/
import Derived.Test.YtehnobcjoaclcaaGreatSpanF
import Derived.Test.YtehnobcjoaclcaaGreatGE
namespace Go.Proofs.YtehnobcjoaclcaaGreat
open Go Go.RowKit SpanP
set_option maxRecDepth 100000
set_option maxHeartbeats 1000000
set_option linter.unusedSimpArgs false

/-- The first n blocks from f on. -/
def run (f : Int) (n : Nat) : List Int := (List.range n).map fun (i : Nat) => f + (i : Int)
theorem run_length (f : Int) (n : Nat) : (run f n).length = n := by simp [run]
theorem run_snoc (f : Int) (n : Nat) : run f (n + 1) = run f n ++ [f + (n : Int)] := by simp [run, List.range_succ]
/-- The blocks of a list of spans. -/
def blocks : List S → List Int
  | [] => []
  | s :: l => run s.1 (s.2 - s.1).toNat ++ blocks l
theorem blocks_append : ∀ l m : List S, blocks (l ++ m) = blocks l ++ blocks m
  | [], m => rfl
  | s :: l, m => by simp [blocks, blocks_append l m]
theorem blocks_length : ∀ {l : List S}, SpanP.Norm l → ((blocks l).length : Int) = count l
  | [], _ => rfl
  | s :: l, h => by
    have h1 := h.ok s List.mem_cons_self
    have h2 := blocks_length h.tail
    unfold Ok at h1
    simp only [blocks, count, List.length_append, run_length]
    omega
theorem blocks_take {l : List S} {k : Nat} (h : k < l.length) : blocks (l.take (k + 1)) = blocks (l.take k) ++ run l[k].1 (l[k].2 - l[k].1).toNat := by
  rw [List.take_succ_eq_append_getElem h, blocks_append]
  simp [blocks]
theorem norm_take {l : List S} (h : SpanP.Norm l) (k : Nat) : SpanP.Norm (l.take k) := by
  have := h
  rw [← List.take_append_drop k l] at this
  exact this.front
theorem count_split (l : List S) (k : Nat) : count l = count (l.take k) + count (l.drop k) := by
  rw [← count_append, List.take_append_drop]
theorem count_nonneg : ∀ {l : List S}, SpanP.Norm l → 0 ≤ count l
  | [], _ => by simp [count]
  | s :: l, h => by
    have h1 := h.ok s List.mem_cons_self
    have h2 := count_nonneg h.tail
    unfold Ok at h1
    simp only [count]
    omega
theorem norm_drop {l : List S} (h : SpanP.Norm l) (k : Nat) : SpanP.Norm (l.drop k) :=
  ⟨fun s hs => h.ok s (List.mem_of_mem_drop hs), h.up.drop⟩
/-- Blocks, where there are too many. -/
theorem blocks_no (most : Int) (v : Value) (l m : List S) (w : World) (h : Spans w v l) (hl : l.length ≤ 1000) (il : Lim l) (hm : SetOf m (In l)) (hmost : most ≤ 3000) (hc : count m > most) :
    Calls Tryz.prog 24 #[.int .i64 most, v] w fun e w' => e = .returned (.tuple #[.slice none 0 0, .bool false]) ∧ Below w.heap.size w w' := by
  have hno := normR_any v l w h hl
  obtain ⟨A, ca, rfl, -, -, -⟩ := h.read
  have HMN : Hid (min most 2147483647 = most) := Lib.hid (by omega)
  have HM := Lib.hid hm
  have HI := Lib.hid il
  have d1 : decide (count m > most) = true := decide_eq_true hc
  have HC := Lib.hid hc
  clear h hl il hm hmost hc
  go_enter Tryz.func24, Tryz.ntmps24
  go_wp2_with fail
  refine hno.mono ?_
  rintro e w1 ⟨r, n, rfl, hr, hset, hlen, hb⟩
  obtain rfl : n = m := hset.eq HM.out fun _ => Iff.rfl
  have hto := total_any r n w1 hr.spans hset.norm (hset.lim fun b hb => HI.out.lt hb)
  have HB1 := Lib.hid hb
  clear hno hr hset hlen hb
  go_wp2_with fail
  refine hto.mono ?_
  rintro e w2 ⟨rfl, hb⟩
  have HB2 := Lib.hid (HB1.out.trans (hb.mono HB1.out.size))
  generalize count n = q at d1 HC
  clear hto hb
  go_wp2_with ((with_reducible refine at_list ?_); refine wpList_min_eq rfl (.tmp 17) (.const (.int .i64 2147483647)) _ rfl _ _ _ _ _ rfl rfl HMN.out ?_)
  refine bodyPost_ret (results_tmp2 rfl _ _ _) rfl ?_
  exact ⟨rfl, HB2.out⟩
/-- Blocks: each block once, rising. -/
theorem blocks_yes (most : Int) (v : Value) (l m : List S) (w : World) (h : Spans w v l) (hl : l.length ≤ 1000) (il : Lim l) (hm : SetOf m (In l)) (hmost : most ≤ 3000) (hc : count m ≤ most) :
    Calls Tryz.prog 24 #[.int .i64 most, v] w fun e w' => ∃ r, e = .returned (.tuple #[r, .bool true]) ∧ IRow w' w.heap.size r (blocks m) ∧ Below w.heap.size w w' := by
  have hno := norm_any v l w h hl
  obtain ⟨A, ca, rfl, -, -, -⟩ := h.read
  have HMN : Hid (min most 2147483647 = most) := Lib.hid (by omega)
  have HM := Lib.hid hm
  have HI := Lib.hid il
  have d1 : decide (count m > most) = false := decide_eq_false (by omega)
  have HC : Hid (0 ≤ count m ∧ count m ≤ 3000) := Lib.hid ⟨count_nonneg hm.norm, by omega⟩
  clear h hl il hm hmost hc
  go_enter Tryz.func24, Tryz.ntmps24
  go_wp2_with fail
  refine hno.mono ?_
  rintro e w1 ⟨n, g, cap, rfl, hset, hg, hblk, hlen, hn1, hn2, hb⟩
  obtain rfl : n = m := hset.eq HM.out fun _ => Iff.rfl
  have hcap : (cap : Int) ≤ 1000 := by omega
  have hto := total_any _ n w1 (hblk.spans hn1 (by omega)) hset.norm (hset.lim fun b hb => HI.out.lt hb)
  have HB1 := Lib.hid hb
  have HK := Lib.hid hblk
  have HLIM := Lib.hid (hset.lim fun b hb => HI.out.lt hb)
  clear hno hblk hset hlen hb hn2 hg
  go_wp2_with fail
  refine hto.mono ?_
  rintro e w2 ⟨rfl, hb⟩
  have HB2 := Lib.hid (HB1.out.trans (hb.mono HB1.out.size))
  have HK2 := Lib.hid (HK.out.below hb)
  obtain ⟨q, hq⟩ : ∃ q : Nat, count n = (q : Int) := ⟨(count n).toNat, by have := HC.out; omega⟩
  rw [hq] at d1 ⊢
  have HQ := Lib.hid hq
  have hq3 : (q : Int) ≤ 3000 := by have := HC.out; omega
  obtain ⟨i0, hi, hz0, hz1, hz2⟩ := info_parts (elem_int).info
  have hmk := run_make (P := Tryz.prog) w2 55 3 i0 _ Tryz.underlying55 hi hz0 .i64 .i64 0 q (by omega) (by omega) (by rw [hz2]; omega) (by omega)
  simp only [Int.toNat_natCast, hz1, Int.toNat_zero, Nat.mul_one] at hmk
  have hB := (Below.refl w2.heap.size w2).alloc (Nat.le_refl _) (.cells (madeCells (Value.cells (.int .i64 0)) q) 3)
  have hS := Sits.fresh w2 3 (madeCells (Value.cells (.int .i64 0)) q)
  have hz : (madeCells (Value.cells (.int .i64 0)) q).size = q := size_madeCells _ _
  generalize madeCells (Value.cells (.int .i64 0)) q = cs at hmk hB hS hz
  obtain ⟨p, hp⟩ : ∃ p, p = w2.heap.size := ⟨_, rfl⟩
  obtain ⟨w3, hw3⟩ : ∃ w3, w3 = w2.alloc (.cells cs 3) := ⟨_, rfl⟩
  rw [← hw3] at hmk hB hS
  rw [← hp] at hmk hS
  have hmx : maxLen = 9223372036854775807 := by decide
  have HROW : Hid (IRow w3 w.heap.size (.slice (some ⟨p, 0, none⟩) 0 q) []) := Lib.hid ⟨by simp [vals], .inr ⟨p, 0, q, cs, rfl, by have := HB2.out.size; omega, hS, by simp, by omega, by omega, by simp [vals]⟩⟩
  have HB3 := Lib.hid (HB2.out.trans (hB.mono HB2.out.size))
  have HK3 := Lib.hid (HK2.out.below hB)
  have hnc : (n.length : Int) ≤ 1000 := by omega
  have hncap : n.length ≤ cap := hn1
  have HP : Hid (g < p) := Lib.hid (by rw [hp]; exact HK2.out.lt)
  clear hto hb hq hi hz0 hz1 hz2 hB hS hz hw3 hp hmx hn1
  go_wp2_with ((with_reducible refine at_list ?_); refine wpList_min_eq rfl (.tmp 17) (.const (.int .i64 2147483647)) _ rfl _ _ _ _ _ rfl rfl HMN.out ?_)
  go_loopw [8, 24] (fun r i wr => ∃ k : Nat, k ≤ n.length ∧ i = .int .i64 k ∧ IRow wr w.heap.size r (blocks (n.take k)) ∧ Blk wr g cap n ∧ Below w.heap.size w wr) (fun _ i _ => n.length - (intOf i).toNat)
  case atStart => exact ⟨0, by omega, rfl, HROW.out, HK3.out, HB3.out⟩
  case round =>
    obtain ⟨k, hk, rfl, hR, hK, hB⟩ := hrel
    by_cases hlt : k < n.length
    · obtain ⟨wo, hwo⟩ : ∃ wo, wo = wr := ⟨_, rfl⟩
      rw [← hwo] at hR hK hB ⊢
      have HN := HM.out.norm
      have hcd : ((blocks (n.take k)).length : Int) + (n[k].2 - n[k].1) ≤ 3000 := by
        have h1 := count_split n (k + 1)
        have h2 := count_nonneg (norm_drop HN (k + 1))
        have h3 := blocks_length (norm_take HN k)
        rw [List.take_succ_eq_append_getElem hlt, count_append] at h1
        have h4 : count [n[k]] = n[k].2 - n[k].1 := by simp [count]
        have := HC.out
        omega
      have hok := HN.ok n[k] (List.getElem_mem hlt)
      have hli := HLIM.out n[k] (List.getElem_mem hlt)
      have hnx := blocks_take hlt
      have c01 : wo.cell? ⟨g, k * 2, none⟩ = some (.int .i64 n[k].1) ∧ wo.cell? ⟨g, k * 2 + 1, none⟩ = some (.int .i64 n[k].2) := by
        obtain ⟨cur, hc, hz, hat⟩ := hK
        rw [hc.cell, hc.cell]
        exact hat k hlt
      obtain ⟨c0, c1⟩ := c01
      obtain ⟨s, hs⟩ : ∃ s, s = n[k] := ⟨_, rfl⟩
      rw [← hs] at c0 c1 hcd hok hli hnx
      obtain ⟨d, hd⟩ : ∃ d, d = (s.2 - s.1).toNat := ⟨_, rfl⟩
      obtain ⟨B0, hB0⟩ : ∃ B0, B0 = blocks (n.take k) := ⟨_, rfl⟩
      rw [← hd, ← hB0] at hnx
      rw [← hB0] at hR hcd
      unfold Ok at hok
      unfold top at hli
      have hsd : s.2 = s.1 + (d : Int) := by omega
      have HSD : Hid (s.2 = s.1 + (d : Int) ∧ 0 ≤ s.1 ∧ s.2 ≤ 9223372036854775807 ∧ B0.length + d ≤ 3000) := Lib.hid ⟨hsd, hok.1, hli, by omega⟩
      have hb5 : Below wo.heap.size wo (wo.alloc (.cells #[.int .i64 s.1, .int .i64 s.2] 43)) := (Below.refl _ wo).alloc (Nat.le_refl _) _
      have s5 := Sits.fresh wo 43 #[.int .i64 s.1, .int .i64 s.2]
      obtain ⟨p5, hp5⟩ : ∃ p, p = wo.heap.size := ⟨_, rfl⟩
      obtain ⟨w5, hw5⟩ : ∃ w', w' = wo.alloc (.cells #[.int .i64 s.1, .int .i64 s.2] 43) := ⟨_, rfl⟩
      rw [← hw5] at hb5 s5
      rw [← hp5] at s5
      have H5 := Lib.hid s5
      have HR5 := Lib.hid (hR.below hb5)
      have HK5 := Lib.hid (hK.below hb5)
      have HB5 := Lib.hid (hB.trans (hb5.mono hB.size))
      have HNX := Lib.hid hnx
      obtain ⟨A0, q0, rfl, -, -, -, -⟩ := hR.form
      clear hR hK hB hcd hok hli hnx hs hB0 hb5 s5 hwo hd hsd
      go_wp2_with fail
      rw [← hw5, ← hp5]
      clear hw5 hp5 c0 c1
      go_loopw [8, 11] (fun r b wr => ∃ j : Nat, j ≤ d ∧ b = .int .i64 (s.1 + (j : Int)) ∧ IRow wr w.heap.size r (B0 ++ run s.1 j) ∧ Sits wr p5 43 #[.int .i64 s.1, .int .i64 s.2] ∧ Blk wr g cap n ∧ Below w.heap.size w wr) (fun _ b _ => d - (intOf b - s.1).toNat)
      case atStart => exact ⟨0, by omega, by simp, by simpa [run] using HR5.out, H5.out, HK5.out, HB5.out⟩
      case round =>
        obtain ⟨j, hj, rfl, hR, h5, hK, hB⟩ := hrel
        have z1 := h5.cell 1
        simp at z1
        obtain ⟨AR, cr, rfl, -, -, -, -⟩ := hR.form
        by_cases hjd : j < d
        · have dj : decide (s.1 + (j : Int) < s.2) = true := decide_eq_true (by have := HSD.out; omega)
          have e1 : IntKind.i64.wrap (s.1 + (j : Int) + 1) = s.1 + ((j + 1 : Nat) : Int) := by
            have := HSD.out
            rw [IntWalk.i64_in _ (by omega)]
            omega
          obtain ⟨A6, c6, w6, hr6, hR6, hB6, hM6, _, _⟩ := pushI_one hR (s.1 + (j : Int)) hB.size (by rw [List.length_append, run_length]; have := HSD.out; omega) 55
          have hne : ∀ q cur, Sits wr q 43 cur → ¬ (Value.slice AR (B0 ++ run s.1 j).length cr).ownBlock = some q := fun q cur hs e => by
            obtain ⟨cur', hs'⟩ := hR.sits q e
            exact (hs.apart hs' (by decide)) rfl
          have HR6 : Hid (IRow w6 w.heap.size (.slice A6 ((B0 ++ run s.1 j).length + 1 : Nat) c6) (B0 ++ run s.1 (j + 1))) := Lib.hid (by
            rw [run_snoc, ← List.append_assoc]; exact hR6)
          have H56 := Lib.hid (h5.many hM6 (hne p5 _ h5))
          have HK6 : Hid (Blk w6 g cap n) := Lib.hid (by
            obtain ⟨cur, hc, hz, hat⟩ := hK
            exact ⟨cur, hc.many hM6 (hne g _ hc), hz, hat⟩)
          have HB6 := Lib.hid (hB.trans hB6)
          generalize (B0 ++ run s.1 j).length = len at hr6 HR6 ⊢
          clear hR h5 hK hB hR6 hB6 hM6 hne
          go_wp2_with (at_builtin; refine Lib.wpList_append_run _ rfl _ _ _ _ rfl _ _ rfl rfl _ _ hr6 ?_)
          go_roundw
          case rel => exact ⟨j + 1, by omega, by first | rfl | simp, HR6.out, H56.out, HK6.out, HB6.out⟩
          case measure => simp [intOf]; omega
        · obtain rfl : j = d := by omega
          have dj : decide (s.1 + (j : Int) < s.2) = false := decide_eq_false (by have := HSD.out; omega)
          have HR7 : Hid (IRow wr w.heap.size (.slice AR (B0 ++ run s.1 j).length cr) (blocks (n.take (k + 1)))) := Lib.hid (by rw [HNX.out]; exact hR)
          have HK7 := Lib.hid hK
          have HB7 := Lib.hid hB
          clear hR h5 hK hB hj hjd
          go_wp2
          go_roundw
          case rel => exact ⟨k + 1, by omega, by go_num, HR7.out, HK7.out, HB7.out⟩
          case measure => simp [intOf]; omega
    · obtain rfl : k = n.length := by omega
      rw [List.take_length] at hR
      have HR9 := Lib.hid hR
      have HB9 := Lib.hid hB
      obtain ⟨AR, cr, rfl, -, -, -, -⟩ := hR.form
      clear hR hB hK
      go_wp2
      refine bodyPost_ret (results_tmp2 rfl _ _ _) rfl ?_
      exact ⟨_, rfl, HR9.out, HB9.out⟩
end Go.Proofs.YtehnobcjoaclcaaGreat
