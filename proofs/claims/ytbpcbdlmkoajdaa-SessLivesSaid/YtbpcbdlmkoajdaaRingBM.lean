/- Package ring: a ring of elements of several cells: leave, Pop, New, List. -/
import Derived.Test.YtbpcbdlmkoajdaaRingM
import Derived.Test.YtbpcbdlmkoajdaaMinMax
namespace Go.Proofs.Ytbpcbdlmkoajdaa
open Go Go.RowKit
set_option maxRecDepth 100000
set_option maxHeartbeats 1000000
set_option linter.unusedSimpArgs false

theorem RingCM.leaves {w : World} {p g room n first : Nat} {x : Msg} {l : List Msg} (h : RingCM w p g room n first (x :: l)) (a b : Nat) :
    RingCM ((((((w.drewN a).setCell ⟨g, first * 2, none⟩ (.string ⟨#[]⟩)).setCell ⟨g, first * 2 + 1, none⟩ (.int .i64 0)).drewN b).setCell ⟨p, 2, none⟩ (.int .i64 ((first + 1) % n : Nat))).setCell ⟨p, 3, none⟩ (.int .i64 l.length)) p g room n ((first + 1) % n) l := by
  have hne := h.ne
  obtain ⟨cur, hg, hz, hc⟩ := h.cells
  have hf := h.first_lt
  have hl := h.len_le
  simp only [List.length_cons] at hl
  have hlt : (first + 1) % n < n := Nat.mod_lt _ (by omega)
  refine ⟨(((((h.sits.drewN a).away (p := ⟨g, first * 2, none⟩) (Ne.symm hne) (.string ⟨#[]⟩)).away (p := ⟨g, first * 2 + 1, none⟩) (Ne.symm hne) (.int .i64 0)).drewN b).put 2 _).put 3 _, hlt, h.n_le, by omega, h.small, _, (((((hg.drewN a).put (first * 2) (.string ⟨#[]⟩)).put (first * 2 + 1) (.int .i64 0)).drewN b).away (p := ⟨p, 2, none⟩) hne _).away (p := ⟨p, 3, none⟩) hne _, by simp [hz], fun i hi => ?_⟩
  have e1 : ((first + 1) % n + i) % n = (first + (i + 1)) % n := by
    rw [Nat.add_mod, Nat.mod_mod, ← Nat.add_mod]
    congr 1
    omega
  have e2 : first ≠ (first + (i + 1)) % n := by
    intro e3
    rcases Nat.lt_or_ge (first + (i + 1)) n with h1 | h1
    · rw [Nat.mod_eq_of_lt h1] at e3; omega
    · rw [Nat.mod_eq_sub_mod h1, Nat.mod_eq_of_lt (by omega)] at e3; omega
  have e4 := hc (i + 1) (by simpa using hi)
  rw [e1]
  generalize (first + (i + 1)) % n = m at e2 e4 ⊢
  simp only [Array.getElem?_setIfInBounds]
  refine ⟨?_, ?_⟩
  · rw [if_neg (by omega), if_neg (by omega)]; exact e4.1
  · rw [if_neg (by omega), if_neg (by omega)]; exact e4.2
theorem leaveM_any (p g room : Nat) (x : Msg) (l : List Msg) (w : World) (h : RingM w p g room (x :: l)) :
    Calls Try.prog 36 #[.pointer (some ⟨p, 0, none⟩)] w fun e w' => e = .returned (.tuple #[]) ∧ RingM w' p g room l ∧ Two p g w w' := by
  obtain ⟨W1, hW1⟩ : ∃ W, W = w.alloc (.cells #[(.string ⟨#[]⟩), (.int .i64 0)] 46) := ⟨_, rfl⟩
  have hb : Below w.heap.size w W1 := hW1 ▸ (Below.refl _ w).alloc (Nat.le_refl _) _
  have hs1 : Sits W1 w.heap.size 46 #[(.string ⟨#[]⟩), (.int .i64 0)] := hW1 ▸ Sits.fresh w _ _
  obtain ⟨n, first, hc0⟩ := h.full (by simp)
  have hc := hc0.below hb
  have hne := hc.ne
  have hs := hc.small
  have hl := hc.len_le
  have hn := hc.n_le
  have hf := hc.first_lt
  have hk : 0 < (x :: l).length := by simp
  obtain ⟨cur, hg, hz, hcur⟩ := hc.cells
  have e0 : (first + 0) % n = first := Nat.mod_eq_of_lt (by omega)
  have e1 := hcur 0 hk
  rw [e0] at e1
  simp only [List.getElem_cons_zero] at e1
  obtain ⟨hq0, hq1⟩ := e1
  have cg0 := hg.cell (first * 2)
  rw [hq0] at cg0
  clear hq0
  have fg0 := hg.warm (first * 2)
  have cg1 := hg.cell (first * 2 + 1)
  rw [hq1] at cg1
  clear hq1
  have fg1 := hg.warm (first * 2 + 1)
  have c1 := hc.sits.cell 1
  have c2 := hc.sits.cell 2
  have c3 := hc.sits.cell 3
  have f2 := hc.sits.warm 2
  have f3 := hc.sits.warm 3
  have v0 := hs1.cell 0
  have v1 := hs1.cell 1
  have hlen : ((x :: l).length : Int) = (l.length : Int) + 1 := by simp
  rw [hlen] at c3
  have hl2 : (l.length : Int) ≤ 100000 := by simp only [List.length_cons] at hl; omega
  have hone : Two p g w W1 := Two.of_below p g hb
  have HF := Lib.hid (fun a b => (RingM.intro (hc.leaves a b) : RingM _ p g room l))
  have HT := Lib.hid (fun a b => ((((((hone.drewN a).store2 (first * 2) (.string ⟨#[]⟩)).store2 (first * 2 + 1) (.int .i64 0)).drewN b).store1 2 (.int .i64 ((first + 1) % n : Nat))).store1 3 (.int .i64 l.length)))
  have HS := Lib.hid (fun a => (((hc.sits.drewN a).away (p := ⟨g, first * 2, none⟩) (Ne.symm hne) (.string ⟨#[]⟩)).away (p := ⟨g, first * 2 + 1, none⟩) (Ne.symm hne) (.int .i64 0)))
  have HN : Hid (n ≤ 100000) := Lib.hid (by omega)
  have hfi : (first : Int) < (n : Int) := by omega
  have HFN := Lib.hid hf
  have hn2 : (n : Int) ≤ 100000 := by omega
  have hgw : g ≠ w.heap.size ∧ p ≠ w.heap.size := by have := hc0.lt; omega
  clear h hc hc0 hg hcur hz hs hl hn e0 hk hlen hone hb hs1
  go_enter Try.func36, Try.ntmps36
  go_wp2_with fail
  rw [← hW1]
  clear hW1
  go_region
  all_goals go_wp2_with fail
  all_goals refine (cellM_at p g n first 1 _ _ _ (HS.out _) HFN.out HN.out (by omega)).mono ?_
  all_goals rintro e w' ⟨rfl, k, rfl⟩
  all_goals go_wp2
  all_goals go_end0
  all_goals have e2 : (((first : Int) + 1) % (n : Int)) = (((first + 1) % n : Nat) : Int) := by simp
  all_goals rw [e2]
  all_goals exact ⟨rfl, HF.out _ _, HT.out _ _⟩
theorem infoM : (Try.prog.info? 46).map (fun i => (i.zero, i.size, i.bytes)) = some (some (.agg #[(.string ⟨#[]⟩), (.int .i64 0)]), 2, 24) := by kernel_rfl
theorem boundedM (k : Int) (w : World) (m : Nat) (hm : m = min k.toNat 100000) :
    Calls Try.prog 29 #[.int .i64 k] w fun e w' => e = .returned (.int .i64 m) ∧ w = w' := by
  obtain ⟨q, hq⟩ : ∃ q : Nat, q = k.toNat := ⟨_, rfl⟩
  have HX : Hid (max k 0 = (q : Int)) := Lib.hid (by omega)
  have HM : Hid (min (q : Int) 100000 = (m : Int)) := Lib.hid (by omega)
  clear hq hm
  go_enter Try.func29, Try.ntmps29
  go_wp2_with (first | ((with_reducible refine at_list ?_); refine wpList_max_eq rfl (.tmp 3) (.const (.int .i64 0)) _ rfl _ _ _ _ _ rfl rfl HX.out ?_) | ((with_reducible refine at_list ?_); refine wpList_min_eq rfl (.tmp 4) (.const (.int .i64 100000)) _ rfl _ _ _ _ _ rfl rfl HM.out ?_))
  go_ret
  exact ⟨rfl, rfl⟩
theorem newM_any (k : Int) (w : World) (m : Nat) (hm : m = min k.toNat 100000) :
    Calls Try.prog 16 #[.int .i64 k] w fun e w' => e = .returned (.pointer (some ⟨w.heap.size, 0, none⟩)) ∧ RingM w' w.heap.size w.heap.size m [] ∧ Below w.heap.size w w' := by
  have HM := Lib.hid hm
  clear hm
  go_enter Try.func16, Try.ntmps16
  go_wp2_with fail
  refine (boundedM k w m HM.out).mono ?_
  rintro e w' ⟨rfl, rfl⟩
  go_wp2
  go_ret
  exact ⟨rfl, .inl ⟨rfl, rfl, by have := HM.out; omega, Sits.fresh w _ _⟩, (Below.refl w.heap.size w).alloc (Nat.le_refl _) _⟩
end Go.Proofs.Ytbpcbdlmkoajdaa
