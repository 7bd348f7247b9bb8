/- Package ring: a ring of elements of several cells in memory, and what its methods answer and leave. Package ring: a ring of elements of several cells: leave, Pop, New, List. Package ring: a ring of elements of several cells: List. -/
import Derived.Test.YtieodancccefiaaTwo
import Derived.Test.YtieodancccefiaaGD
import Derived.Laws.MakeOwn
import Derived.Laws.CopyRow
import Derived.BigQuiet
import Derived.Deep.RegionHeld3
import Derived.BigRegion
import Derived.Test.YtieodancccefiaaGA
import Derived.Test.YtieodancccefiaaGF
import Derived.Laws.CopyOwn
namespace Go.Proofs.Ytieodancccefiaa
section
open Go Go.RowKit
set_option maxRecDepth 100000
set_option maxHeartbeats 1000000
set_option linter.unusedSimpArgs false

theorem wide_ne {W a b i j : Nat} (hi : i < W) (hj : j < W) (h : a * W + i = b * W + j) : a = b ∧ i = j := by
  have h1 : (a * W + i) / W = a := by rw [Nat.mul_comm, Nat.mul_add_div (by omega), Nat.div_eq_of_lt hi, Nat.add_zero]
  have h2 : (b * W + j) / W = b := by rw [Nat.mul_comm, Nat.mul_add_div (by omega), Nat.div_eq_of_lt hj, Nat.add_zero]
  have h3 : a = b := by rw [← h1, ← h2, h]
  subst h3
  exact ⟨rfl, by omega⟩
theorem Two.put_new {p g : Nat} {a w : World} {q : Nat} (h : Two p g a w) (hq : a.heap.size ≤ q) (i : Nat) (u : Value) : Two p g a (w.setCell ⟨q, i, none⟩ u) :=
  ⟨h.os, h.tape, h.output, by simpa [World.setCell] using h.size, fun k hk hp hg => (Below.heap_setCell w ⟨q, i, none⟩ u k (show k ≠ q by omega)).trans (h.block k hk hp hg)⟩
theorem round_ne {n first a b : Nat} (hf : first < n) (ha : a < n) (hb : b < n) (h : a ≠ b) : (first + a) % n ≠ (first + b) % n := by
  intro e
  rcases Nat.lt_or_ge (first + a) n with h1 | h1 <;> rcases Nat.lt_or_ge (first + b) n with h2 | h2
  · rw [Nat.mod_eq_of_lt h1, Nat.mod_eq_of_lt h2] at e; omega
  · rw [Nat.mod_eq_of_lt h1, Nat.mod_eq_sub_mod h2, Nat.mod_eq_of_lt (by omega)] at e; omega
  · rw [Nat.mod_eq_of_lt h2, Nat.mod_eq_sub_mod h1, Nat.mod_eq_of_lt (by omega)] at e; omega
  · rw [Nat.mod_eq_sub_mod h1, Nat.mod_eq_sub_mod h2, Nat.mod_eq_of_lt (by omega), Nat.mod_eq_of_lt (by omega)] at e; omega
/-- At p lies a ring of so much room, whose n cells lie at g and begin at first: it holds l. -/
structure RingCM (w : World) (p g room n first : Nat) (l : List Msg) : Prop where
  sits : Sits w p 122 #[.int .i64 room, .slice (some ⟨g, 0, none⟩) n n, .int .i64 first, .int .i64 l.length]
  first_lt : first < n
  n_le : n ≤ room
  len_le : l.length ≤ n
  small : room ≤ 100000
  cells : ∃ cur : Array Value, Sits w g 91 cur ∧ cur.size = n * 2 ∧ ∀ i (h : i < l.length), cur[((first + i) % n) * 2]? = some (.string (str l[i].d)) ∧ cur[((first + i) % n) * 2 + 1]? = some (.int .i64 (l[i].l : Int))
/-- At p lies a ring of so much room that holds l; g: where its cells lie, or p if it has none. -/
def RingM (w : World) (p g room : Nat) (l : List Msg) : Prop :=
  (l = [] ∧ g = p ∧ room ≤ 100000 ∧ Sits w p 122 #[.int .i64 room, .slice none 0 0, .int .i64 0, .int .i64 0]) ∨ ∃ n first, RingCM w p g room n first l

section
variable {w w' : World} {p g room n first : Nat} {l : List Msg}
theorem RingCM.ne (h : RingCM w p g room n first l) : g ≠ p := by
  obtain ⟨cur, hc, _⟩ := h.cells
  exact hc.apart h.sits (by decide)
theorem RingCM.keep (h : RingCM w p g room n first l) (hk : ∀ b t cs, b = p ∨ b = g → Sits w b t cs → Sits w' b t cs) : RingCM w' p g room n first l := by
  obtain ⟨cur, hc, h1, h2⟩ := h.cells
  exact ⟨hk _ _ _ (.inl rfl) h.sits, h.first_lt, h.n_le, h.len_le, h.small, cur, hk _ _ _ (.inr rfl) hc, h1, h2⟩
theorem RingM.keep (h : RingM w p g room l) (hk : ∀ b t cs, b = p ∨ b = g → Sits w b t cs → Sits w' b t cs) : RingM w' p g room l := by
  rcases h with ⟨h1, h2, h3, h4⟩ | ⟨n, f, h⟩
  · exact .inl ⟨h1, h2, h3, hk _ _ _ (.inl rfl) h4⟩
  · exact .inr ⟨n, f, h.keep hk⟩
theorem RingM.below (h : RingM w p g room l) (hb : Below w.heap.size w w') : RingM w' p g room l := h.keep fun _ _ _ _ hs => hs.below' hb
theorem RingCM.below (h : RingCM w p g room n first l) (hb : Below w.heap.size w w') : RingCM w' p g room n first l := h.keep fun _ _ _ _ hs => hs.below' hb
theorem RingM.drewN (h : RingM w p g room l) (k : Nat) : RingM (w.drewN k) p g room l := h.keep fun _ _ _ _ hs => hs
theorem RingCM.drewN (h : RingCM w p g room n first l) (k : Nat) : RingCM (w.drewN k) p g room n first l := h.keep fun _ _ _ _ hs => hs
theorem RingCM.away {q : Nat} (h : RingCM w p g room n first l) (hp : p ≠ q) (hg : g ≠ q) (i : Nat) (u : Value) : RingCM (w.setCell ⟨q, i, none⟩ u) p g room n first l :=
  h.keep fun b t cs hb hs => hs.away (p := ⟨q, i, none⟩) (by rcases hb with rfl | rfl <;> assumption) u
theorem RingM.away {q : Nat} (h : RingM w p g room l) (hp : p ≠ q) (hg : g ≠ q) (i : Nat) (u : Value) : RingM (w.setCell ⟨q, i, none⟩ u) p g room l :=
  h.keep fun b t cs hb hs => hs.away (p := ⟨q, i, none⟩) (by rcases hb with rfl | rfl <;> assumption) u
theorem RingM.head (h : RingM w p g room l) : room ≤ 100000 ∧ l.length ≤ room ∧ ∃ sv first : Value, Sits w p 122 #[.int .i64 room, sv, first, .int .i64 l.length] := by
  rcases h with ⟨rfl, h2, h3, h4⟩ | ⟨n, f, h⟩
  · exact ⟨h3, by simp, _, _, h4⟩
  · exact ⟨h.small, Nat.le_trans h.len_le h.n_le, _, _, h.sits⟩
theorem RingCM.lt (h : RingCM w p g room n first l) : p < w.heap.size ∧ g < w.heap.size := by
  obtain ⟨cur, hc, _⟩ := h.cells
  exact ⟨h.sits.lt, hc.lt⟩
theorem RingM.lt (h : RingM w p g room l) : p < w.heap.size ∧ g < w.heap.size := by
  rcases h with ⟨rfl, h2, h3, h4⟩ | ⟨n, f, h⟩
  · exact ⟨h4.lt, h2 ▸ h4.lt⟩
  · exact h.lt
theorem RingM.full (h : RingM w p g room l) (hl : 0 < l.length) : ∃ n first, RingCM w p g room n first l := by
  rcases h with ⟨rfl, h2, h3, h4⟩ | h
  · simp at hl
  · exact h
end
theorem RingM.intro {w : World} {p g room n first : Nat} {l : List Msg} (h : RingCM w p g room n first l) : RingM w p g room l := .inr ⟨_, _, h⟩
theorem lenM_any (p g room : Nat) (l : List Msg) (w : World) (h : RingM w p g room l) :
    Calls Try.prog 57 #[.pointer (some ⟨p, 0, none⟩)] w fun e w' => e = .returned (.int .i64 l.length) ∧ w = w' := by
  obtain ⟨h1, h2, sv, f, hs⟩ := h.head
  have c3 := hs.cell 3
  clear hs h h1 h2
  go_enter Try.func57, Try.ntmps57
  go_wp2
  go_ret
  exact ⟨rfl, rfl⟩
theorem lenM_nil (w : World) : Calls Try.prog 57 #[.pointer none] w fun e w' => e = .returned (.int .i64 0) ∧ w = w' := by
  go_enter Try.func57, Try.ntmps57
  go_wp2
  go_ret
  exact ⟨rfl, rfl⟩
theorem roomM_any (p g room : Nat) (l : List Msg) (w : World) (h : RingM w p g room l) :
    Calls Try.prog 82 #[.pointer (some ⟨p, 0, none⟩)] w fun e w' => e = .returned (.int .i64 (room - l.length)) ∧ ∃ n, w' = w.drewN n := by
  obtain ⟨h1, h2, sv, f, hs⟩ := h.head
  have c0 := hs.cell 0
  have c3 := hs.cell 3
  have hr : IntKind.i64.wrap ((room : Int) - (l.length : Int)) = (room : Int) - (l.length : Int) := IntWalk.i64_in _ (by omega)
  clear hs h h1 h2
  go_enter Try.func82, Try.ntmps82
  go_wp2
  go_quiet (fail)
  go_wp2
  go_ret
  exact ⟨rfl, _, rfl⟩
theorem hasM_in (p g room : Nat) (l : List Msg) (k : Nat) (w : World) (h : RingM w p g room l) (hk : k < l.length) :
    Calls Try.prog 85 #[.pointer (some ⟨p, 0, none⟩), .int .i64 k] w fun e w' => e = .returned (.bool true) ∧ w = w' := by
  have HR := Lib.hid h
  have d1 : decide ((0 : Int) ≤ (k : Int)) = true := by simp
  have d2 : decide (k < l.length) = true := by simp [hk]
  clear h hk
  go_enter Try.func85, Try.ntmps85
  go_wp2_with fail
  refine (lenM_any p g room l w HR.out).mono ?_
  rintro e w' ⟨rfl, rfl⟩
  go_wp2
  go_ret
  exact ⟨rfl, rfl⟩
theorem hasM_out (p g room : Nat) (l : List Msg) (k : Int) (w : World) (h : RingM w p g room l) (hk : k < 0 ∨ (l.length : Int) ≤ k) :
    Calls Try.prog 85 #[.pointer (some ⟨p, 0, none⟩), .int .i64 k] w fun e w' => e = .returned (.bool false) ∧ w = w' := by
  have HR := Lib.hid h
  clear h
  by_cases h0 : k < 0
  · have d1 : decide ((0 : Int) ≤ k) = false := by simp; omega
    clear hk
    go_enter Try.func85, Try.ntmps85
    go_wp2
    go_ret
    exact ⟨rfl, rfl⟩
  · have d1 : decide ((0 : Int) ≤ k) = true := by simp; omega
    have d2 : decide (k < (l.length : Int)) = false := by simp; omega
    clear hk h0
    go_enter Try.func85, Try.ntmps85
    go_wp2_with fail
    refine (lenM_any p g room l w HR.out).mono ?_
    rintro e w' ⟨rfl, rfl⟩
    go_wp2
    go_ret
    exact ⟨rfl, rfl⟩
theorem cellM_at (p g n first : Nat) (k : Nat) (rv lv : Value) (w : World) (hs : Sits w p 122 #[rv, .slice (some ⟨g, 0, none⟩) n n, .int .i64 first, lv]) (h1 : first < n) (h2 : n ≤ 100000) (hk : k ≤ 100000) :
    Calls Try.prog 84 #[.pointer (some ⟨p, 0, none⟩), .int .i64 k] w fun e w' => e = .returned (.int .i64 ((first + k) % n : Nat)) ∧ ∃ n, w' = w.drewN n := by
  have c1 := hs.cell 1
  have c2 := hs.cell 2
  have hr : IntKind.i64.wrap ((first : Int) + (k : Int)) = ((first + k : Nat) : Int) := by
    rw [← Int.natCast_add]
    exact IntWalk.i64_in _ (by omega)
  have hz : decide ((n : Int) = 0) = false := by simp; omega
  have hq : ((first + k : Nat) : Int).tmod (n : Int) = ((first + k) % n : Nat) := by
    rw [Int.tmod_eq_emod_of_nonneg (by omega)]
    omega
  have hl : ((first + k) % n) < n := Nat.mod_lt _ (by omega)
  have hrr : IntKind.i64.wrap (((first + k) % n : Nat) : Int) = (((first + k) % n : Nat) : Int) := IntWalk.i64_in _ (by omega)
  have hn : (n : Int) ≤ 100000 := by omega
  clear hs h2 hk
  go_enter Try.func84, Try.ntmps84
  go_wp2
  go_quiet (fail)
  go_wp2
  go_ret
  exact ⟨by simp, _, rfl⟩
theorem cellM_any (p g room n first : Nat) (l : List Msg) (k : Nat) (w : World) (h : RingCM w p g room n first l) (hk : k ≤ 100000) :
    Calls Try.prog 84 #[.pointer (some ⟨p, 0, none⟩), .int .i64 k] w fun e w' => e = .returned (.int .i64 ((first + k) % n : Nat)) ∧ ∃ n, w' = w.drewN n :=
  cellM_at p g n first k _ _ w h.sits h.first_lt (Nat.le_trans h.n_le h.small) hk
end
section
open Go Go.RowKit
set_option maxRecDepth 100000
set_option maxHeartbeats 1000000
set_option linter.unusedSimpArgs false

theorem RingCM.leaves {w : World} {p g room n first : Nat} {x : Msg} {l : List Msg} (h : RingCM w p g room n first (x :: l)) (a b : Nat) :
    RingCM ((((((w.drewN a).setCell ⟨g, first * 2, none⟩ (.string ⟨#[]⟩)).setCell ⟨g, first * 2 + 1, none⟩ (.int .i64 0)).drewN b).setCell ⟨p, 2, none⟩ (.int .i64 ((first + 1) % n : Nat))).setCell ⟨p, 3, none⟩ (.int .i64 l.length)) p g room n ((first + 1) % n) l := by
  have hne := h.ne
  obtain ⟨cur, hg, hz, hc⟩ := h.cells
  have hf := h.first_lt
  have hl := h.len_le
  simp only [List.length_cons] at hl
  have hlt : (first + 1) % n < n := Nat.mod_lt _ (by omega)
  refine ⟨(((((h.sits.drewN a).away (p := ⟨g, first * 2, none⟩) (Ne.symm hne) (.string ⟨#[]⟩)).away (p := ⟨g, first * 2 + 1, none⟩) (Ne.symm hne) (.int .i64 0)).drewN b).put 2 _).put 3 _, hlt, h.n_le, by omega, h.small, _, (((((hg.drewN a).put (first * 2) (.string ⟨#[]⟩)).put (first * 2 + 1) (.int .i64 0)).drewN b).away (p := ⟨p, 2, none⟩) hne _).away (p := ⟨p, 3, none⟩) hne _, by simp [hz], fun i hi => ?_⟩
  have e1 : ((first + 1) % n + i) % n = (first + (i + 1)) % n := by
    rw [Nat.add_mod, Nat.mod_mod, ← Nat.add_mod]
    congr 1
    omega
  have e2 : first ≠ (first + (i + 1)) % n := by
    intro e3
    rcases Nat.lt_or_ge (first + (i + 1)) n with h1 | h1
    · rw [Nat.mod_eq_of_lt h1] at e3; omega
    · rw [Nat.mod_eq_sub_mod h1, Nat.mod_eq_of_lt (by omega)] at e3; omega
  have e4 := hc (i + 1) (by simpa using hi)
  rw [e1]
  generalize (first + (i + 1)) % n = m at e2 e4 ⊢
  simp only [Array.getElem?_setIfInBounds]
  refine ⟨?_, ?_⟩
  · rw [if_neg (by omega), if_neg (by omega)]; exact e4.1
  · rw [if_neg (by omega), if_neg (by omega)]; exact e4.2
theorem leaveM_any (p g room : Nat) (x : Msg) (l : List Msg) (w : World) (h : RingM w p g room (x :: l)) :
    Calls Try.prog 89 #[.pointer (some ⟨p, 0, none⟩)] w fun e w' => e = .returned (.tuple #[]) ∧ RingM w' p g room l ∧ Two p g w w' := by
  obtain ⟨W1, hW1⟩ : ∃ W, W = w.alloc (.cells #[(.string ⟨#[]⟩), (.int .i64 0)] 91) := ⟨_, rfl⟩
  have hb : Below w.heap.size w W1 := hW1 ▸ (Below.refl _ w).alloc (Nat.le_refl _) _
  have hs1 : Sits W1 w.heap.size 91 #[(.string ⟨#[]⟩), (.int .i64 0)] := hW1 ▸ Sits.fresh w _ _
  obtain ⟨n, first, hc0⟩ := h.full (by simp)
  have hc := hc0.below hb
  have hne := hc.ne
  have hs := hc.small
  have hl := hc.len_le
  have hn := hc.n_le
  have hf := hc.first_lt
  have hk : 0 < (x :: l).length := by simp
  obtain ⟨cur, hg, hz, hcur⟩ := hc.cells
  have e0 : (first + 0) % n = first := Nat.mod_eq_of_lt (by omega)
  have e1 := hcur 0 hk
  rw [e0] at e1
  simp only [List.getElem_cons_zero] at e1
  obtain ⟨hq0, hq1⟩ := e1
  have cg0 := hg.cell (first * 2)
  rw [hq0] at cg0
  clear hq0
  have fg0 := hg.warm (first * 2)
  have cg1 := hg.cell (first * 2 + 1)
  rw [hq1] at cg1
  clear hq1
  have fg1 := hg.warm (first * 2 + 1)
  have c1 := hc.sits.cell 1
  have c2 := hc.sits.cell 2
  have c3 := hc.sits.cell 3
  have f2 := hc.sits.warm 2
  have f3 := hc.sits.warm 3
  have v0 := hs1.cell 0
  have v1 := hs1.cell 1
  have hlen : ((x :: l).length : Int) = (l.length : Int) + 1 := by simp
  rw [hlen] at c3
  have hl2 : (l.length : Int) ≤ 100000 := by simp only [List.length_cons] at hl; omega
  have hone : Two p g w W1 := Two.of_below p g hb
  have HF := Lib.hid (fun a b => (RingM.intro (hc.leaves a b) : RingM _ p g room l))
  have HT := Lib.hid (fun a b => ((((((hone.drewN a).store2 (first * 2) (.string ⟨#[]⟩)).store2 (first * 2 + 1) (.int .i64 0)).drewN b).store1 2 (.int .i64 ((first + 1) % n : Nat))).store1 3 (.int .i64 l.length)))
  have HS := Lib.hid (fun a => (((hc.sits.drewN a).away (p := ⟨g, first * 2, none⟩) (Ne.symm hne) (.string ⟨#[]⟩)).away (p := ⟨g, first * 2 + 1, none⟩) (Ne.symm hne) (.int .i64 0)))
  have HN : Hid (n ≤ 100000) := Lib.hid (by omega)
  have hfi : (first : Int) < (n : Int) := by omega
  have HFN := Lib.hid hf
  have hn2 : (n : Int) ≤ 100000 := by omega
  have hgw : g ≠ w.heap.size ∧ p ≠ w.heap.size := by have := hc0.lt; omega
  clear h hc hc0 hg hcur hz hs hl hn e0 hk hlen hone hb hs1
  go_enter Try.func89, Try.ntmps89
  go_wp2_with fail
  rw [← hW1]
  clear hW1
  go_region
  all_goals go_wp2_with fail
  all_goals refine (cellM_at p g n first 1 _ _ _ (HS.out _) HFN.out HN.out (by omega)).mono ?_
  all_goals rintro e w' ⟨rfl, k, rfl⟩
  all_goals go_wp2
  all_goals go_end0
  all_goals have e2 : (((first : Int) + 1) % (n : Int)) = (((first + 1) % n : Nat) : Int) := by simp
  all_goals rw [e2]
  all_goals exact ⟨rfl, HF.out _ _, HT.out _ _⟩
theorem infoM : (Try.prog.info? 91).map (fun i => (i.zero, i.size, i.bytes)) = some (some (.agg #[(.string ⟨#[]⟩), (.int .i64 0)]), 2, 24) := by kernel_rfl
theorem boundedM (k : Int) (w : World) (m : Nat) (hm : m = min k.toNat 100000) :
    Calls Try.prog 86 #[.int .i64 k] w fun e w' => e = .returned (.int .i64 m) ∧ w = w' := by
  obtain ⟨q, hq⟩ : ∃ q : Nat, q = k.toNat := ⟨_, rfl⟩
  have HX : Hid (max k 0 = (q : Int)) := Lib.hid (by omega)
  have HM : Hid (min (q : Int) 100000 = (m : Int)) := Lib.hid (by omega)
  clear hq hm
  go_enter Try.func86, Try.ntmps86
  go_wp2_with (first | ((with_reducible refine at_list ?_); refine wpList_max_eq rfl (.tmp 3) (.const (.int .i64 0)) _ rfl _ _ _ _ _ rfl rfl HX.out ?_) | ((with_reducible refine at_list ?_); refine wpList_min_eq rfl (.tmp 4) (.const (.int .i64 100000)) _ rfl _ _ _ _ _ rfl rfl HM.out ?_))
  go_ret
  exact ⟨rfl, rfl⟩
theorem newM_any (k : Int) (w : World) (m : Nat) (hm : m = min k.toNat 100000) :
    Calls Try.prog 58 #[.int .i64 k] w fun e w' => e = .returned (.pointer (some ⟨w.heap.size, 0, none⟩)) ∧ RingM w' w.heap.size w.heap.size m [] ∧ Below w.heap.size w w' := by
  have HM := Lib.hid hm
  clear hm
  go_enter Try.func58, Try.ntmps58
  go_wp2_with fail
  refine (boundedM k w m HM.out).mono ?_
  rintro e w' ⟨rfl, rfl⟩
  go_wp2
  go_ret
  exact ⟨rfl, .inl ⟨rfl, rfl, by have := HM.out; omega, Sits.fresh w _ _⟩, (Below.refl w.heap.size w).alloc (Nat.le_refl _) _⟩
end
section
open Go Go.RowKit
set_option maxRecDepth 100000
set_option maxHeartbeats 1000000
set_option linter.unusedSimpArgs false

def encM (x : Msg) : List Value := [(.string (str x.d)), (.int .i64 (x.l : Int))]
theorem encM_len (x : Msg) : (encM x).length = 2 := rfl
def cellsM (l : List Msg) : List Value := l.flatMap encM
theorem cellsM_length (l : List Msg) : (cellsM l).length = l.length * 2 := by
  unfold cellsM
  induction l with
  | nil => rfl
  | cons x l ih => simp only [List.flatMap_cons, List.length_append, encM_len, List.length_cons] at ih ⊢; omega
theorem cellsM_cons (x : Msg) (l : List Msg) : cellsM (x :: l) = encM x ++ cellsM l := by simp [cellsM]
theorem cellsM_at : ∀ (l : List Msg) (i j : Nat) (h : i < l.length), j < 2 → (cellsM l)[i * 2 + j]? = (encM l[i])[j]?
  | x :: l, 0, j, _, hj => by
    rw [cellsM_cons, Nat.zero_mul, Nat.zero_add, List.getElem?_append_left (by rw [encM_len]; exact hj)]
    rfl
  | x :: l, i + 1, j, h, hj => by
    rw [cellsM_cons, List.getElem?_append_right (by rw [encM_len]; omega), encM_len, show (i + 1) * 2 + j - 2 = i * 2 + j by omega]
    exact cellsM_at l i j (by simpa using h) hj
theorem cellsM_one (l : List Msg) : ∀ u ∈ cellsM l, u.oneCell' = true := by
  intro u hu
  unfold cellsM at hu
  obtain ⟨s, _, hs⟩ := List.mem_flatMap.1 hu
  simp only [encM, List.mem_cons, List.not_mem_nil, or_false] at hs
  rcases hs with rfl | rfl <;> rfl
theorem arrM_put (cur : Array Value) (l : List Msg) (k : Nat) (y : Msg) (hz : cur.size = l.length * 2) (h : ∀ i (_ : i < l.length), i < k → cur[i * 2]? = some (.string (str l[i].d)) ∧ cur[i * 2 + 1]? = some (.int .i64 (l[i].l : Int))) {hk : k < l.length} (hy : y = l[k]) :
    ∀ i (_ : i < l.length), i < k + 1 → ((cur.setIfInBounds (k * 2) (.string (str y.d))).setIfInBounds (k * 2 + 1) (.int .i64 (y.l : Int)))[i * 2]? = some (.string (str l[i].d)) ∧ ((cur.setIfInBounds (k * 2) (.string (str y.d))).setIfInBounds (k * 2 + 1) (.int .i64 (y.l : Int)))[i * 2 + 1]? = some (.int .i64 (l[i].l : Int)) := by
  intro i hi h1
  simp only [Array.getElem?_setIfInBounds, Array.size_setIfInBounds]
  by_cases e : k = i
  · subst e
    rw [← hy]
    refine ⟨?_, ?_⟩ <;> simp <;> omega
  · have e4 := h i hi (by omega)
    refine ⟨?_, ?_⟩
    · rw [if_neg (by omega), if_neg (by omega)]; exact e4.1
    · rw [if_neg (by omega), if_neg (by omega)]; exact e4.2
theorem arrM_ext (cur : Array Value) (l : List Msg) (hz : cur.size = l.length * 2) (h : ∀ i (_ : i < l.length), cur[i * 2]? = some (.string (str l[i].d)) ∧ cur[i * 2 + 1]? = some (.int .i64 (l[i].l : Int))) : cur = (cellsM l).toArray := by
  refine Array.ext_getElem? fun i => ?_
  by_cases hi : i < l.length * 2
  · have h0 : i / 2 < l.length := by omega
    have e1 := h (i / 2) h0
    have e2 := cellsM_at l (i / 2) (i % 2) h0 (by omega)
    have e3 : i / 2 * 2 + i % 2 = i := by omega
    rw [e3] at e2
    have e9 : (cellsM l).toArray[i]? = (cellsM l)[i]? := by simp
    rw [e9, e2]
    rcases (show i % 2 = 0 ∨ i % 2 = 1 by omega) with e5 | e5
    · rw [e5]
      have e6 := e1.1
      rw [show i / 2 * 2 = i by omega] at e6
      rw [e6]; rfl
    · rw [e5]
      have e6 := e1.2
      rw [show i / 2 * 2 + 1 = i by omega] at e6
      rw [e6]; rfl
  · have e9 : (cellsM l).toArray[i]? = (cellsM l)[i]? := by simp
    rw [Array.getElem?_eq_none (by omega), e9, List.getElem?_eq_none (by rw [cellsM_length]; omega)]
theorem listM_any (p g room : Nat) (l : List Msg) (w : World) (h : RingM w p g room l) :
    Calls Try.prog 54 #[.pointer (some ⟨p, 0, none⟩)] w fun e w' => e = .returned (.slice (some ⟨w.heap.size, 0, none⟩) l.length l.length) ∧
      Sits w' w.heap.size 91 (cellsM l).toArray ∧ Below w.heap.size w w' := by
  have HR := Lib.hid h
  obtain ⟨h1, h2, _⟩ := h.head
  obtain ⟨i0, hi, hz0, hz1, hz2⟩ := info_parts infoM
  have hmk := run_make (P := Try.prog) w 92 91 i0 _ Try.underlying92 hi hz0 .i64 .i64 l.length l.length (by omega) (by omega) (by rw [hz2]; omega) (by omega)
  simp only [Int.toNat_natCast, hz1] at hmk
  have hll : (l.length : Int) ≤ 100000 := by omega
  have HR := Lib.hid (h.below ((Below.refl _ w).alloc (Nat.le_refl _) (.cells (madeCells (Value.cells (.agg #[(.string ⟨#[]⟩), (.int .i64 0)])) (l.length * 2)) 91)))
  have HS := Lib.hid (Sits.fresh w 91 (madeCells (Value.cells (.agg #[(.string ⟨#[]⟩), (.int .i64 0)])) (l.length * 2)))
  have HB := Lib.hid ((Below.refl w.heap.size w).alloc (Nat.le_refl _) (.cells (madeCells (Value.cells (.agg #[(.string ⟨#[]⟩), (.int .i64 0)])) (l.length * 2)) 91))
  have HL := Lib.hid h
  have hsz : (madeCells (Value.cells (.agg #[(.string ⟨#[]⟩), (.int .i64 0)])) (l.length * 2)).size = l.length * 2 := size_madeCells _ _
  generalize madeCells (Value.cells (.agg #[(.string ⟨#[]⟩), (.int .i64 0)])) (l.length * 2) = cz at hmk HR HS HB hsz
  have HZ := Lib.hid hsz
  clear h h1 h2 hi hz0 hz1 hz2 hsz
  go_enter Try.func54, Try.ntmps54
  go_wp2_with fail
  refine (lenM_any p g room l _ HL.out).mono ?_
  rintro e w' ⟨rfl, rfl⟩
  go_wp2
  go_loopw [10] (fun i wr => ∃ k : Nat, k ≤ l.length ∧ i = .int .i64 k ∧ RingM wr p g room l ∧ Below w.heap.size w wr ∧
    ∃ cur, Sits wr w.heap.size 91 cur ∧ cur.size = l.length * 2 ∧ ∀ i (_ : i < l.length), i < k → cur[i * 2]? = some (.string (str l[i].d)) ∧ cur[i * 2 + 1]? = some (.int .i64 (l[i].l : Int))) (fun i _ => l.length - (intOf i).toNat)
  case atStart => exact ⟨0, by omega, rfl, HR.out, HB.out, cz, HS.out, HZ.out, fun i _ h => by omega⟩
  case round =>
    obtain ⟨k, hk, rfl, hR, hB, cur, hS, hz, hcur⟩ := hrel
    by_cases hlt : k < l.length
    · obtain ⟨n, first, hc⟩ := hR.full (by omega)
      have c1 := hc.sits.cell 1
      have hs := hc.small
      have hl := hc.len_le
      have hn := hc.n_le
      obtain ⟨rc, hg, hrz, hrc⟩ := hc.cells
      obtain ⟨hq0, hq1⟩ := hrc k hlt
      have cg0 := hg.cell (((first + k) % n) * 2)
      rw [hq0] at cg0
      clear hq0
      have cg1 := hg.cell (((first + k) % n) * 2 + 1)
      rw [hq1] at cg1
      clear hq1
      have hml : ((first + k) % n) < n := Nat.mod_lt _ (by have := hc.first_lt; omega)
      obtain ⟨y, hy⟩ : ∃ y, y = l[k] := ⟨_, rfl⟩
      rw [← hy] at cg0 cg1
      have hck0 : wr.cell? ⟨w.heap.size, k * 2, none⟩ = some cur[k * 2] := by rw [hS.cell (k * 2)]; simp [hz] <;> omega
      have fck0 := hS.warm (k * 2)
      generalize cur[k * 2] = old0 at hck0
      have hck1 : wr.cell? ⟨w.heap.size, k * 2 + 1, none⟩ = some cur[k * 2 + 1] := by rw [hS.cell (k * 2 + 1)]; simp [hz] <;> omega
      have fck1 := hS.warm (k * 2 + 1)
      generalize cur[k * 2 + 1] = old1 at hck1
      have hgw : p ≠ w.heap.size ∧ g ≠ w.heap.size := by
        have := HL.out.lt
        omega
      have hnew := fun j => (((hS.drewN j).put (k * 2) (.string (str y.d))).put (k * 2 + 1) (.int .i64 (y.l : Int)))
      have hkeep := fun j => (((hR.drewN j).away hgw.1 hgw.2 (k * 2) (.string (str y.d))).away hgw.1 hgw.2 (k * 2 + 1) (.int .i64 (y.l : Int)))
      have hbel := fun j => (below_put (below_put (below_drewN hB j) (Nat.le_refl _) (k * 2) (.string (str y.d))) (Nat.le_refl _) (k * 2 + 1) (.int .i64 (y.l : Int)))
      obtain ⟨m, hm⟩ : ∃ m, m = (first + k) % n := ⟨_, rfl⟩
      rw [← hm] at cg0 cg1 hml
      have HC := Lib.hid hc
      have HM := Lib.hid hm
      have HKM : Hid (k ≤ 100000) := Lib.hid (by omega)
      have HNEW := Lib.hid hnew
      have HKEEP := Lib.hid hkeep
      have HBEL := Lib.hid hbel
      have HCUR := Lib.hid (And.intro hz (And.intro hcur hy))
      have hn2 : (n : Int) ≤ 100000 := by omega
      have hlt2 : (m : Int) < (n : Int) := by omega
      clear hR hB hS hz hcur hc hs hl hn hg hrz hrc hm hnew hkeep hbel hgw hy
      go_wp2_with fail
      go_region_with (refine (cellM_any p g room n first l k _ (HC.out.drewN 1) HKM.out).mono ?_; rintro e w' ⟨rfl, nn, rfl⟩; rw [← HM.out])
      all_goals go_wp2
      all_goals go_roundw
      all_goals first
        | exact ⟨k + 1, by omega, by go_num, HKEEP.out _, HBEL.out _, _, HNEW.out _, by simp [HCUR.out.1], arrM_put cur l k y HCUR.out.1 HCUR.out.2.1 HCUR.out.2.2⟩
        | (simp [intOf]; omega)
    · have hkl : k = l.length := by omega
      subst hkl
      have HB1 := Lib.hid hB
      have HS1 := Lib.hid hS
      have HC1 := Lib.hid (arrM_ext cur l hz (fun i hi => hcur i hi hi))
      clear hR hB hS hz hcur
      go_wp2
      go_ret
      rw [← HC1.out]
      exact ⟨rfl, HS1.out, HB1.out⟩
end
end Go.Proofs.Ytieodancccefiaa
