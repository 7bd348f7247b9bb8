/- commonsref1: a map of ranges: Clear. -/
import Derived.Test.YtehnobcjoaclcaaGreatPartR
import Derived.Lib.AppendZeros
namespace Go.Proofs.YtehnobcjoaclcaaGreat
open Go Go.RowKit SpanP PartP
set_option maxRecDepth 100000
set_option maxHeartbeats 1000000
set_option linter.unusedSimpArgs false

theorem refvalid_any (s : S) (w : World) : Calls Tryz.prog 5 #[aggS s] w fun e w' => e = .returned (.bool (decide (Ok s))) ∧ ∃ q os, w' = Sort.grow (w.drewN q) os := by
  obtain ⟨a, b⟩ := s
  unfold aggS
  simp only
  by_cases h1 : 0 ≤ a
  · have d1 : decide (0 ≤ a) = true := decide_eq_true h1
    have d2 : decide (a ≥ 0) = true := decide_eq_true h1
    rw [show decide (Ok (a, b)) = decide (a < b) by unfold Ok; simp [h1]]
    go_enter Tryz.func5, Tryz.ntmps5
    go_wp2
    go_ret
    exact ⟨rfl, grown_alloc (grown_refl w) _⟩
  · have d1 : decide (0 ≤ a) = false := decide_eq_false h1
    have d2 : decide (a ≥ 0) = false := decide_eq_false h1
    rw [show decide (Ok (a, b)) = false by unfold Ok; simp [h1]]
    go_enter Tryz.func5, Tryz.ntmps5
    go_wp2
    go_ret
    exact ⟨rfl, grown_alloc (grown_refl w) _⟩
theorem clear_take (s : S) (l : List Pt) (k : Nat) (h : k < l.length) : PartP.clear s (l.take (k + 1)) = PartP.clear s (l.take k) ++ cutOut s l[k] := by
  rw [List.take_succ_eq_append_getElem h]
  unfold PartP.clear
  rw [List.flatMap_append]
  simp
theorem clear_length (s : S) (l : List Pt) : (PartP.clear s l).length ≤ 2 * l.length := by
  unfold PartP.clear
  induction l with
  | nil => simp
  | cons x l ih =>
    rw [List.flatMap_cons, List.length_append, List.length_cons]
    have : (cutOut s x).length ≤ 2 := by
      unfold cutOut
      split <;> split <;> simp
    omega
theorem refclear_any (v : Value) (l : List Pt) (s : S) (hs : Ok s) (w : World) (h : Parts w v l) (hl : l.length ≤ 1000) :
    Calls Tryz.prog 37 #[v, aggS s] w fun e w' => ∃ r, e = .returned r ∧ QRow w' w.heap.size r (PartP.clear s l) ∧ Below w.heap.size w w' := by
  obtain ⟨A, ca, rfl, ha1, ha2, ha3⟩ := h.read
  have HA := Lib.hid ha3
  have hcl : (l.length : Int) ≤ 9223372036854775807 := by omega
  have HL := Lib.hid hl
  have hv : ∀ W : World, Calls Tryz.prog 5 #[.agg #[.int .i64 s.1, .int .i64 s.2]] W fun e w' => e = .returned (.bool true) ∧ ∃ q os, w' = Sort.grow (W.drewN q) os := fun W => by
    have := refvalid_any s W
    rwa [decide_eq_true hs] at this
  obtain ⟨p3, hp3⟩ : ∃ p, p = w.heap.size := ⟨_, rfl⟩
  obtain ⟨w3, hw3⟩ : ∃ w', w' = w.alloc (.cells #[.int .i64 s.1, .int .i64 s.2] 43) := ⟨_, rfl⟩
  have H3 : Hid (Sits w3 p3 43 #[.int .i64 s.1, .int .i64 s.2]) := Lib.hid (by rw [hw3, hp3]; exact Sits.fresh w _ _)
  have HB3 : Hid (Below w.heap.size w w3) := Lib.hid (by rw [hw3]; exact (Below.refl _ w).alloc (Nat.le_refl _) _)
  have HP3 : Hid (w.heap.size ≤ p3) := Lib.hid (by omega)
  clear ha3 h hl hs
  unfold aggS
  go_enter Tryz.func37, Tryz.ntmps37
  go_wp2_with fail
  rw [← hw3, ← hp3]
  clear hw3 hp3
  refine (hv _).mono ?_
  rintro e w4 ⟨rfl, hg⟩
  have H4 := Lib.hid (H3.out.below' (grown_below hg))
  have HB4 := Lib.hid (HB3.out.trans ((grown_below hg).mono HB3.out.size))
  clear hg hv
  go_wp2
  go_loopw [5, 6] (fun r i wr => ∃ k : Nat, k ≤ l.length ∧ i = .int .i64 k ∧ QRow wr w.heap.size r (PartP.clear s (l.take k)) ∧ Sits wr p3 43 #[.int .i64 s.1, .int .i64 s.2] ∧ Below w.heap.size w wr) (fun _ i _ => l.length - (intOf i).toNat)
  case atStart => exact ⟨0, by omega, rfl, QRow.nil _ _, H4.out, HB4.out⟩
  case round =>
    obtain ⟨k, hk, rfl, hR, hS, hB⟩ := hrel
    by_cases hlt : k < l.length
    · obtain ⟨b, o, rfl, hb, c0, c1, c2⟩ := HA.out k hlt
      rw [← hB.cell (p := ⟨b, o + k * 3, none⟩) hb] at c0
      rw [← hB.cell (p := ⟨b, o + k * 3 + 1, none⟩) hb] at c1
      rw [← hB.cell (p := ⟨b, o + k * 3 + 2, none⟩) hb] at c2
      have hnx := clear_take s l k hlt
      have hlen := Nat.le_trans (clear_length s (l.take k)) (show 2 * (l.take k).length ≤ 2000 by have := HL.out; rw [List.length_take]; omega)
      obtain ⟨x, hx⟩ : ∃ x, x = l[k] := ⟨_, rfl⟩
      rw [← hx] at c0 c1 c2 hnx
      obtain ⟨f, hf⟩ : ∃ f, f = PartP.clear s (l.take k) := ⟨_, rfl⟩
      rw [← hf] at hnx hR hlen
      have hb7 : Below wr.heap.size wr (wr.alloc (.cells #[.int .i64 x.1.1, .int .i64 x.1.2, .int .i64 x.2] 102)) := (Below.refl _ wr).alloc (Nat.le_refl _) _
      have s7 := Sits.fresh wr 102 #[.int .i64 x.1.1, .int .i64 x.1.2, .int .i64 x.2]
      have hs7 : (wr.alloc (.cells #[.int .i64 x.1.1, .int .i64 x.1.2, .int .i64 x.2] 102)).heap.size = wr.heap.size + 1 := World.size_alloc _ _
      have hlo := hR.lt
      obtain ⟨p7, hp7⟩ : ∃ p, p = wr.heap.size := ⟨_, rfl⟩
      obtain ⟨w7, hw7⟩ : ∃ w', w' = wr.alloc (.cells #[.int .i64 x.1.1, .int .i64 x.1.2, .int .i64 x.2] 102) := ⟨_, rfl⟩
      rw [← hw7] at hb7 s7 hs7
      rw [← hp7] at s7 hs7
      have hR7 := hR.below hb7
      have hS7 := hS.below' hb7
      have hB7 := hB.trans (hb7.mono hB.size)
      obtain ⟨AR, cr, rfl, -, -, -, -⟩ := hR.form
      have hnot : ∀ q, (Value.slice AR f.length cr).ownBlock = some q → q ≠ p7 ∧ ∀ T cs, Sits w7 q T cs → T = 102 := fun q hq => by
        refine ⟨by have := hlo q hq; omega, fun T cs hT => ?_⟩
        obtain ⟨cur, hc⟩ := hR7.sits q hq
        have := (show w7.heap[q]? = some (.cells cs T (0, 0)) from hT).symm.trans hc
        simp at this
        exact this.2
      by_cases h1 : x.1.1 < s.1
      · by_cases h2 : x.1.2 > s.2
        · have d1 : decide (x.1.1 < s.1) = true := decide_eq_true h1
          have d2 : decide (x.1.2 > s.2) = true := decide_eq_true h2
          have hcut : cutOut s x = [((x.1.1, min x.1.2 s.1), x.2)] ++ [((max x.1.1 s.2, x.1.2), x.2)] := by unfold cutOut; rw [if_pos h1, if_pos h2]
          rw [hcut] at hnx
          obtain ⟨y, hy⟩ : ∃ y, y = min x.1.2 s.1 := ⟨_, rfl⟩
          rw [← hy] at hnx
          have HY : Hid (min x.1.2 s.1 = y) := Lib.hid hy.symm
          obtain ⟨A8, c8, w8, hr8, hR8, hB8, hM8, _, _⟩ := pushQ_one hR7 ((x.1.1, y), x.2) hB7.size (by omega) 62
          rw [hs7] at hr8
          have hS8 := hS7.many hM8 (fun e => by have := (hnot p3 e).2 _ _ hS7; exact absurd this (by decide))
          have s8 := s7.many hM8 (fun e => (hnot p7 e).1 rfl)
          have hB8' := hB7.trans hB8
          obtain ⟨z, hz⟩ : ∃ z, z = max x.1.1 s.2 := ⟨_, rfl⟩
          rw [← hz] at hnx
          have HZ : Hid (max x.1.1 s.2 = z) := Lib.hid hz.symm
          clear hz
          obtain ⟨A9, c9, w9, hr9, hR9, hB9, hM9, _, _⟩ := pushQ_one hR8 ((z, x.1.2), x.2) hB8'.size (by simp; omega) 62
          have hnot9 : ∀ q cur, Sits w8 q 43 cur → ¬ (Value.slice A8 (f.length + 1) c8).ownBlock = some q := fun q cur hq e => by
            obtain ⟨cur', hc⟩ := hR8.sits q e
            exact (hq.apart hc (by decide)) rfl
          have hS9 := hS8.many hM9 (hnot9 p3 _ hS8)
          have hB9' := hB8'.trans hB9
          have HRR : Hid (QRow w9 w.heap.size _ _) := Lib.hid hR9
          have HSS := Lib.hid hS9
          have HBB := Lib.hid hB9'
          have k30 := hS7.cell 0
          have k31 := hS7.cell 1
          have k70 := s7.cell 0
          have k71 := s7.cell 1
          have k72 := s7.cell 2
          simp at k30 k31 k70 k71 k72
          have m30 := hS8.cell 0
          have m31 := hS8.cell 1
          have m70 := s8.cell 0
          have m71 := s8.cell 1
          have m72 := s8.cell 2
          simp at m30 m31 m70 m71 m72
          rw [hw7] at k30 k31
          have HNX := Lib.hid hnx
          clear hR hS hB hb7 hlo hR7 hS7 hB7 hnot hnx hcut hx hf hb s7 hs7 hR8 hS8 s8 hB8 hB8' hM8 hy
          go_wp2_with (first | ((with_reducible refine at_list ?_); refine wpList_min_eq rfl (.tmp 34) (.tmp 36) _ rfl _ _ _ _ _ rfl rfl HY.out ?_) | (at_builtin; rw [← hw7, ← hp7]; clear hw7 hp7; refine Lib.wpList_append_run _ rfl _ _ _ _ rfl _ _ rfl rfl _ _ hr8 ?_) | ((with_reducible refine at_list ?_); refine wpList_max_eq rfl (.tmp 53) (.tmp 55) _ rfl _ _ _ _ _ rfl rfl HZ.out ?_) | (at_builtin; refine Lib.wpList_append_run _ rfl _ _ _ _ rfl _ _ rfl rfl _ _ hr9 ?_))
          go_roundw
          case rel => exact ⟨k + 1, by omega, by go_num, by rw [HNX.out]; simpa using HRR.out, HSS.out, HBB.out⟩
          case measure => simp [intOf]; omega
        · have d1 : decide (x.1.1 < s.1) = true := decide_eq_true h1
          have d2 : decide (x.1.2 > s.2) = false := decide_eq_false h2
          have hcut : cutOut s x = [((x.1.1, min x.1.2 s.1), x.2)] := by unfold cutOut; rw [if_pos h1, if_neg h2]; rfl
          rw [hcut] at hnx
          obtain ⟨y, hy⟩ : ∃ y, y = min x.1.2 s.1 := ⟨_, rfl⟩
          rw [← hy] at hnx
          have HY : Hid (min x.1.2 s.1 = y) := Lib.hid hy.symm
          obtain ⟨A8, c8, w8, hr8, hR8, hB8, hM8, _, _⟩ := pushQ_one hR7 ((x.1.1, y), x.2) hB7.size (by omega) 62
          rw [hs7] at hr8
          have hS8 := hS7.many hM8 (fun e => by have := (hnot p3 e).2 _ _ hS7; exact absurd this (by decide))
          have s8 := s7.many hM8 (fun e => (hnot p7 e).1 rfl)
          have hB8' := hB7.trans hB8
          have HRR : Hid (QRow w8 w.heap.size _ _) := Lib.hid hR8
          have HSS := Lib.hid hS8
          have HBB := Lib.hid hB8'
          have k30 := hS7.cell 0
          have k31 := hS7.cell 1
          have k70 := s7.cell 0
          have k71 := s7.cell 1
          have k72 := s7.cell 2
          simp at k30 k31 k70 k71 k72
          have m30 := hS8.cell 0
          have m31 := hS8.cell 1
          have m70 := s8.cell 0
          have m71 := s8.cell 1
          have m72 := s8.cell 2
          simp at m30 m31 m70 m71 m72
          rw [hw7] at k30 k31
          have HNX := Lib.hid hnx
          clear hR hS hB hb7 hlo hR7 hS7 hB7 hnot hnx hcut hx hf hb s7 hs7 hR8 hS8 s8 hB8 hB8' hM8 hy
          go_wp2_with (first | ((with_reducible refine at_list ?_); refine wpList_min_eq rfl (.tmp 34) (.tmp 36) _ rfl _ _ _ _ _ rfl rfl HY.out ?_) | (at_builtin; rw [← hw7, ← hp7]; clear hw7 hp7; refine Lib.wpList_append_run _ rfl _ _ _ _ rfl _ _ rfl rfl _ _ hr8 ?_))
          go_roundw
          case rel => exact ⟨k + 1, by omega, by go_num, by rw [HNX.out]; simpa using HRR.out, HSS.out, HBB.out⟩
          case measure => simp [intOf]; omega
      · by_cases h2 : x.1.2 > s.2
        · have d1 : decide (x.1.1 < s.1) = false := decide_eq_false h1
          have d2 : decide (x.1.2 > s.2) = true := decide_eq_true h2
          have hcut : cutOut s x = [((max x.1.1 s.2, x.1.2), x.2)] := by unfold cutOut; rw [if_neg h1, if_pos h2]; rfl
          rw [hcut] at hnx
          obtain ⟨z, hz⟩ : ∃ z, z = max x.1.1 s.2 := ⟨_, rfl⟩
          rw [← hz] at hnx
          have HZ : Hid (max x.1.1 s.2 = z) := Lib.hid hz.symm
          clear hz
          obtain ⟨A9, c9, w9, hr9, hR9, hB9, hM9, _, _⟩ := pushQ_one hR7 ((z, x.1.2), x.2) hB7.size (by omega) 62
          rw [hs7] at hr9
          have hS9 := hS7.many hM9 (fun e => by have := (hnot p3 e).2 _ _ hS7; exact absurd this (by decide))
          have hB9' := hB7.trans hB9
          have HRR : Hid (QRow w9 w.heap.size _ _) := Lib.hid hR9
          have HSS := Lib.hid hS9
          have HBB := Lib.hid hB9'
          have k30 := hS7.cell 0
          have k31 := hS7.cell 1
          have k70 := s7.cell 0
          have k71 := s7.cell 1
          have k72 := s7.cell 2
          simp at k30 k31 k70 k71 k72
          rw [hw7] at k30 k31
          have HNX := Lib.hid hnx
          clear hR hS hB hb7 hlo hR7 hS7 hB7 hnot hnx hcut hx hf hb s7 hs7
          go_wp2_with (first | ((with_reducible refine at_list ?_); refine wpList_max_eq rfl (.tmp 53) (.tmp 55) _ rfl _ _ _ _ _ rfl rfl HZ.out ?_) | (at_builtin; rw [← hw7, ← hp7]; clear hw7 hp7; refine Lib.wpList_append_run _ rfl _ _ _ _ rfl _ _ rfl rfl _ _ hr9 ?_))
          go_roundw
          case rel => exact ⟨k + 1, by omega, by go_num, by rw [HNX.out]; simpa using HRR.out, HSS.out, HBB.out⟩
          case measure => simp [intOf]; omega
        · have d1 : decide (x.1.1 < s.1) = false := decide_eq_false h1
          have d2 : decide (x.1.2 > s.2) = false := decide_eq_false h2
          have hcut : cutOut s x = [] := by unfold cutOut; rw [if_neg h1, if_neg h2]; rfl
          rw [hcut] at hnx
          have HRR : Hid (QRow w7 w.heap.size _ _) := Lib.hid hR7
          have HSS := Lib.hid hS7
          have HBB := Lib.hid hB7
          have k30 := hS7.cell 0
          have k31 := hS7.cell 1
          have k70 := s7.cell 0
          have k71 := s7.cell 1
          have k72 := s7.cell 2
          simp at k30 k31 k70 k71 k72
          rw [hw7] at k30 k31
          have HNX := Lib.hid hnx
          clear hR hS hB hb7 hlo hR7 hS7 hB7 hnot hnx hcut hx hf hb s7 hs7
          go_wp2
          rw [← hw7]
          go_roundw
          case rel => exact ⟨k + 1, by omega, by go_num, by rw [HNX.out]; simpa using HRR.out, HSS.out, HBB.out⟩
          case measure => simp [intOf]; omega
    · obtain rfl : k = l.length := by omega
      rw [List.take_length] at hR
      have HR9 := Lib.hid hR
      have HB9 := Lib.hid hB
      clear hR hB hS
      go_wp2
      go_ret
      exact ⟨_, rfl, HR9.out, HB9.out⟩
end Go.Proofs.YtehnobcjoaclcaaGreat
