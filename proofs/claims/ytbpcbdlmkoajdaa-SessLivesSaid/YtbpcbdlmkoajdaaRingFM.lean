/- Package ring: a ring of elements of several cells: Set, Drop, Clear; a nil ring. -/
import Derived.Test.YtbpcbdlmkoajdaaRingEM
namespace Go.Proofs.Ytbpcbdlmkoajdaa
open Go Go.RowKit
set_option maxRecDepth 100000
set_option maxHeartbeats 1000000
set_option linter.unusedSimpArgs false

theorem RingCM.put {w : World} {p g room n first : Nat} {l : List Msg} (h : RingCM w p g room n first l) {k : Nat} (hk : k < l.length) (x : Msg) (a : Nat) :
    RingCM (((w.drewN a).setCell ⟨g, ((first + k) % n) * 2, none⟩ (.string (str x.d))).setCell ⟨g, ((first + k) % n) * 2 + 1, none⟩ (.int .i64 (x.l : Int))) p g room n first (l.set k x) := by
  have hne := h.ne
  obtain ⟨cur, hg, hz, hc⟩ := h.cells
  have hf := h.first_lt
  have hl := h.len_le
  refine ⟨by rw [List.length_set]; exact (((h.sits.drewN a).away (p := ⟨g, ((first + k) % n) * 2, none⟩) (Ne.symm hne) (.string (str x.d))).away (p := ⟨g, ((first + k) % n) * 2 + 1, none⟩) (Ne.symm hne) (.int .i64 (x.l : Int))), hf, h.n_le, by rw [List.length_set]; exact hl, h.small, _, (((hg.drewN a).put (((first + k) % n) * 2) (.string (str x.d))).put (((first + k) % n) * 2 + 1) (.int .i64 (x.l : Int))), by simp [hz], fun i hi => ?_⟩
  rw [List.length_set] at hi
  have hlt : (first + k) % n < n := Nat.mod_lt _ (by omega)
  simp only [Array.getElem?_setIfInBounds, Array.size_setIfInBounds]
  by_cases e : k = i
  · subst e
    have hx : (l.set k x)[k]'(by rw [List.length_set]; exact hi) = x := List.getElem_set_self _
    rw [hx]
    refine ⟨?_, ?_⟩ <;> simp <;> omega
  · have e2 := round_ne hf (show k < n by omega) (show i < n by omega) e
    have e4 := hc i hi
    have hx : (l.set k x)[i]'(by rw [List.length_set]; exact hi) = l[i] := List.getElem_set_ne e _
    rw [hx]
    generalize (first + k) % n = m1 at e2 hlt ⊢
    generalize (first + i) % n = m2 at e2 e4 ⊢
    refine ⟨?_, ?_⟩
    · rw [if_neg (by omega), if_neg (by omega)]; exact e4.1
    · rw [if_neg (by omega), if_neg (by omega)]; exact e4.2
theorem setM_in (p g room : Nat) (l : List Msg) (k : Nat) (x : Msg) (w : World) (h : RingM w p g room l) (hk : k < l.length) :
    Calls Try.prog 20 #[.pointer (some ⟨p, 0, none⟩), .int .i64 k, (.agg #[(.string (str x.d)), (.int .i64 (x.l : Int))])] w fun e w' => e = .returned (.bool true) ∧ RingM w' p g room (l.set k x) ∧ Two p g w w' := by
  obtain ⟨W1, hW1⟩ : ∃ W, W = w.alloc (.cells #[(.string (str x.d)), (.int .i64 (x.l : Int))] 46) := ⟨_, rfl⟩
  have hb : Below w.heap.size w W1 := hW1 ▸ (Below.refl _ w).alloc (Nat.le_refl _) _
  have hs1 : Sits W1 w.heap.size 46 #[(.string (str x.d)), (.int .i64 (x.l : Int))] := hW1 ▸ Sits.fresh w _ _
  obtain ⟨n, first, hc0⟩ := h.full (by omega)
  have hc := hc0.below hb
  have HR := Lib.hid (h.below hb)
  have c1 := hc.sits.cell 1
  have hs := hc.small
  have hn := hc.n_le
  have hf := hc.first_lt
  have hne := hc.ne
  have hl := hc.len_le
  obtain ⟨cur, hg, hz, hcur⟩ := hc.cells
  have hp := fun a => hc.put hk x a
  have hone : Two p g w W1 := Two.of_below p g hb
  obtain ⟨q, hq⟩ : ∃ q, q = (first + k) % n := ⟨_, rfl⟩
  have hqn : q < n := by rw [hq]; exact Nat.mod_lt _ (by omega)
  have cg0 : W1.cell? ⟨g, q * 2, none⟩ = some cur[q * 2] := by rw [hg.cell (q * 2)]; simp [hz] <;> omega
  have fg0 := hg.warm (q * 2)
  generalize cur[q * 2] = old0 at cg0
  have cg1 : W1.cell? ⟨g, q * 2 + 1, none⟩ = some cur[q * 2 + 1] := by rw [hg.cell (q * 2 + 1)]; simp [hz] <;> omega
  have fg1 := hg.warm (q * 2 + 1)
  generalize cur[q * 2 + 1] = old1 at cg1
  have ht := fun a => (((hone.drewN a).store2 (q * 2) (.string (str x.d))).store2 (q * 2 + 1) (.int .i64 (x.l : Int)))
  have hcell := fun W (hW : RingCM W p g room n first l) => cellM_any p g room n first l k W hW (by omega)
  rw [← hq] at hcell hp
  have HCELL := Lib.hid hcell
  have HC := Lib.hid hc
  have HK := Lib.hid hk
  have HP := Lib.hid hp
  have HT := Lib.hid ht
  have v0 := hs1.cell 0
  have v1 := hs1.cell 1
  have hn2 : (n : Int) ≤ 100000 := by omega
  have hqn2 : (q : Int) < (n : Int) := by omega
  have hgw : g ≠ w.heap.size ∧ p ≠ w.heap.size := by have := hc0.lt; omega
  clear h hk hc hc0 hg hcur hz hs hl hn hq hp ht hcell hone hb hs1 hf
  go_enter Try.func20, Try.ntmps20
  go_wp2_with fail
  rw [← hW1]
  clear hW1
  refine (hasM_in p g room l k W1 HR.out HK.out).mono ?_
  rintro e w' ⟨rfl, rfl⟩
  go_wp2_with fail
  go_region_with (refine (HCELL.out _ (HC.out.drewN 1)).mono ?_; rintro e w' ⟨rfl, nn, rfl⟩)
  all_goals go_wp2
  all_goals go_ret
  all_goals exact ⟨rfl, .inr ⟨_, _, HP.out _⟩, HT.out _⟩
theorem setM_out (p g room : Nat) (l : List Msg) (k : Int) (x : Msg) (w : World) (h : RingM w p g room l) (hk : k < 0 ∨ (l.length : Int) ≤ k) :
    Calls Try.prog 20 #[.pointer (some ⟨p, 0, none⟩), .int .i64 k, (.agg #[(.string (str x.d)), (.int .i64 (x.l : Int))])] w fun e w' => e = .returned (.bool false) ∧ Below w.heap.size w w' := by
  obtain ⟨W1, hW1⟩ : ∃ W, W = w.alloc (.cells #[(.string (str x.d)), (.int .i64 (x.l : Int))] 46) := ⟨_, rfl⟩
  have hb : Below w.heap.size w W1 := hW1 ▸ (Below.refl _ w).alloc (Nat.le_refl _) _
  have HR := Lib.hid (h.below hb)
  have HB := Lib.hid hb
  have HK := Lib.hid hk
  clear h hk hb
  go_enter Try.func20, Try.ntmps20
  go_wp2_with fail
  rw [← hW1]
  clear hW1
  refine (hasM_out p g room l k W1 HR.out HK.out).mono ?_
  rintro e w' ⟨rfl, rfl⟩
  go_wp2
  go_ret
  exact ⟨rfl, HB.out⟩
theorem dropM_any (p g room : Nat) (l : List Msg) (k : Int) (m : Nat) (hm : m = min k.toNat l.length) (w : World) (h : RingM w p g room l) :
    Calls Try.prog 35 #[.pointer (some ⟨p, 0, none⟩), .int .i64 k] w fun e w' => e = .returned (.int .i64 m) ∧ RingM w' p g room (l.drop m) ∧ Two p g w w' := by
  have HR := Lib.hid h
  obtain ⟨h1, h2, _⟩ := h.head
  have hle : m ≤ l.length := by omega
  have hml : (m : Int) ≤ 100000 := by omega
  have hll : (l.length : Int) ≤ 100000 := by omega
  obtain ⟨q, hq⟩ : ∃ q : Nat, q = k.toNat := ⟨_, rfl⟩
  have HX : Hid (max k 0 = (q : Int)) := Lib.hid (by omega)
  have HM : Hid (min (q : Int) (l.length : Int) = (m : Int)) := Lib.hid (by omega)
  have HLE := Lib.hid hle
  clear h h1 h2 hm hle hq
  go_enter Try.func35, Try.ntmps35
  go_wp2_with (first | ((with_reducible refine at_list ?_); refine wpList_max_eq rfl (.tmp 5) (.const (.int .i64 0)) _ rfl _ _ _ _ _ rfl rfl HX.out ?_) | (go_at_call 27; refine (lenM_any p g room l _ HR.out).mono ?_; rintro e w' ⟨rfl, rfl⟩) | ((with_reducible refine at_list ?_); refine wpList_min_eq rfl (.tmp 6) (.tmp 8) _ rfl _ _ _ _ _ rfl rfl HM.out ?_))
  go_loopw [11] (fun i wr => ∃ k : Nat, k ≤ m ∧ i = .int .i64 k ∧ RingM wr p g room (l.drop k) ∧ Two p g w wr) (fun i _ => m - (intOf i).toNat)
  case atStart => exact ⟨0, by omega, rfl, HR.out, Two.refl p g w⟩
  case round =>
    obtain ⟨j, hj, rfl, hR, hT⟩ := hrel
    by_cases hlt : j < m
    · have hjl : j < l.length := by have := HLE.out; omega
      rw [List.drop_eq_getElem_cons hjl] at hR
      have HR1 := Lib.hid hR
      have HT := Lib.hid hT
      clear hR hT
      go_wp2_with (go_at_call 36; refine (leaveM_any p g room _ _ _ HR1.out).mono ?_; rintro e w1 ⟨rfl, hR, hT⟩)
      have hT := HT.out.trans hT (.inl rfl)
      clear HT HR1
      go_roundw
      case rel => exact ⟨j + 1, by omega, by go_num, hR, hT⟩
      case measure => simp [intOf]; omega
    · have hjm : j = m := by omega
      subst hjm
      have HR1 := Lib.hid hR
      have HT := Lib.hid hT
      clear hR hT
      go_wp2
      go_ret
      exact ⟨rfl, HR1.out, HT.out⟩
theorem clearM_any (p g room : Nat) (l : List Msg) (w : World) (h : RingM w p g room l) :
    Calls Try.prog 34 #[.pointer (some ⟨p, 0, none⟩)] w fun e w' => e = .returned (.int .i64 l.length) ∧ RingM w' p g room [] ∧ Two p g w w' := by
  have HR := Lib.hid h
  obtain ⟨h1, h2, _⟩ := h.head
  have hl : (l.length : Int) ≤ 9223372036854775807 := by omega
  clear h h1 h2
  go_enter Try.func34, Try.ntmps34
  go_wp2_with fail
  refine (lenM_any p g room l _ HR.out).mono ?_
  rintro e w' ⟨rfl, rfl⟩
  go_wp2_with fail
  refine (dropM_any p g room l l.length l.length (by omega) _ HR.out).mono ?_
  rintro e w' ⟨rfl, hR, hT⟩
  rw [List.drop_length] at hR
  have HR1 := Lib.hid hR
  have HT := Lib.hid hT
  clear hR hT
  go_wp2
  go_ret
  exact ⟨rfl, HR1.out, HT.out⟩
theorem hasM_nil (k : Int) (w : World) : Calls Try.prog 33 #[.pointer none, .int .i64 k] w fun e w' => e = .returned (.bool false) ∧ w = w' := by
  by_cases h0 : k < 0
  · have d1 : decide ((0 : Int) ≤ k) = false := by simp; omega
    go_enter Try.func33, Try.ntmps33
    go_wp2
    go_ret
    exact ⟨rfl, rfl⟩
  · have d1 : decide ((0 : Int) ≤ k) = true := by simp; omega
    have d2 : decide (k < (0 : Int)) = false := by simp; omega
    clear h0
    go_enter Try.func33, Try.ntmps33
    go_wp2_with fail
    refine (lenM_nil w).mono ?_
    rintro e w' ⟨rfl, rfl⟩
    go_wp2
    go_ret
    exact ⟨rfl, rfl⟩
theorem dropM_nil (k : Int) (w : World) :
    Calls Try.prog 35 #[.pointer none, .int .i64 k] w fun e w' => e = .returned (.int .i64 0) ∧ w = w' := by
  obtain ⟨q, hq⟩ : ∃ q : Nat, q = k.toNat := ⟨_, rfl⟩
  have HX : Hid (max k 0 = (q : Int)) := Lib.hid (by omega)
  have HM : Hid (min (q : Int) 0 = 0) := Lib.hid (by omega)
  clear hq
  go_enter Try.func35, Try.ntmps35
  go_wp2_with (first | ((with_reducible refine at_list ?_); refine wpList_max_eq rfl (.tmp 5) (.const (.int .i64 0)) _ rfl _ _ _ _ _ rfl rfl HX.out ?_) | (go_at_call 27; refine (lenM_nil w).mono ?_; rintro e w' ⟨rfl, rfl⟩) | ((with_reducible refine at_list ?_); refine wpList_min_eq rfl (.tmp 6) (.tmp 8) _ rfl _ _ _ _ _ rfl rfl HM.out ?_))
  go_loopw [11] (fun i wr => i = .int .i64 0 ∧ wr = w) (fun i _ => 0)
  case atStart => exact ⟨rfl, rfl⟩
  case round =>
    obtain ⟨rfl, rfl⟩ := hrel
    go_wp2
    go_ret
    exact ⟨rfl, rfl⟩
theorem clearM_nil (w : World) : Calls Try.prog 34 #[.pointer none] w fun e w' => e = .returned (.int .i64 0) ∧ w = w' := by
  go_enter Try.func34, Try.ntmps34
  go_wp2_with fail
  refine (lenM_nil w).mono ?_
  rintro e w' ⟨rfl, rfl⟩
  go_wp2_with fail
  refine (dropM_nil 0 w).mono ?_
  rintro e w' ⟨rfl, rfl⟩
  go_wp2
  go_ret
  exact ⟨rfl, rfl⟩
end Go.Proofs.Ytbpcbdlmkoajdaa
