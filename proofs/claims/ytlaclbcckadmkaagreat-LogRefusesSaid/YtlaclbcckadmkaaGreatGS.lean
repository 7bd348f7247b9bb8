/- Package ring: a ring of elements of several cells in memory, and what its methods answer and leave. Package ring: a ring of elements of several cells: leave, Pop, New, List. -/
import Derived.Test.YtlaclbcckadmkaaGreatGA
import Derived.Laws.MakeOwn
import Derived.Laws.CopyRow
import Derived.BigQuiet
import Derived.Deep.RegionHeld3
import Derived.BigRegion
import Derived.Test.YtlaclbcckadmkaaGreatGG
namespace Go.Proofs.YtlaclbcckadmkaaGreat
open Go Go.RowKit
set_option maxRecDepth 100000
set_option maxHeartbeats 1000000
set_option linter.unusedSimpArgs false

theorem wide_ne {W a b i j : Nat} (hi : i < W) (hj : j < W) (h : a * W + i = b * W + j) : a = b ∧ i = j := by
  have h1 : (a * W + i) / W = a := by rw [Nat.mul_comm, Nat.mul_add_div (by omega), Nat.div_eq_of_lt hi, Nat.add_zero]
  have h2 : (b * W + j) / W = b := by rw [Nat.mul_comm, Nat.mul_add_div (by omega), Nat.div_eq_of_lt hj, Nat.add_zero]
  have h3 : a = b := by rw [← h1, ← h2, h]
  subst h3
  exact ⟨rfl, by omega⟩
theorem Two.put_new {p g : Nat} {a w : World} {q : Nat} (h : Two p g a w) (hq : a.heap.size ≤ q) (i : Nat) (u : Value) : Two p g a (w.setCell ⟨q, i, none⟩ u) :=
  ⟨h.os, h.tape, h.output, by simpa [World.setCell] using h.size, fun k hk hp hg => (Below.heap_setCell w ⟨q, i, none⟩ u k (show k ≠ q by omega)).trans (h.block k hk hp hg)⟩
theorem round_ne {n first a b : Nat} (hf : first < n) (ha : a < n) (hb : b < n) (h : a ≠ b) : (first + a) % n ≠ (first + b) % n := by
  intro e
  rcases Nat.lt_or_ge (first + a) n with h1 | h1 <;> rcases Nat.lt_or_ge (first + b) n with h2 | h2
  · rw [Nat.mod_eq_of_lt h1, Nat.mod_eq_of_lt h2] at e; omega
  · rw [Nat.mod_eq_of_lt h1, Nat.mod_eq_sub_mod h2, Nat.mod_eq_of_lt (by omega)] at e; omega
  · rw [Nat.mod_eq_of_lt h2, Nat.mod_eq_sub_mod h1, Nat.mod_eq_of_lt (by omega)] at e; omega
  · rw [Nat.mod_eq_sub_mod h1, Nat.mod_eq_sub_mod h2, Nat.mod_eq_of_lt (by omega), Nat.mod_eq_of_lt (by omega)] at e; omega
/-- At p lies a ring of so much room, whose n cells lie at g and begin at first: it holds l. -/
structure RingCE (w : World) (p g room n first : Nat) (l : List (Nat × Nat)) : Prop where
  sits : Sits w p 113 #[.int .i64 room, .slice (some ⟨g, 0, none⟩) n n, .int .i64 first, .int .i64 l.length]
  first_lt : first < n
  n_le : n ≤ room
  len_le : l.length ≤ n
  small : room ≤ 100000
  cells : ∃ cur : Array Value, Sits w g 78 cur ∧ cur.size = n * 2 ∧ ∀ i (h : i < l.length), cur[((first + i) % n) * 2]? = some (.int .i64 (l[i].1 : Int)) ∧ cur[((first + i) % n) * 2 + 1]? = some (.int .i64 (l[i].2 : Int))
/-- At p lies a ring of so much room that holds l; g: where its cells lie, or p if it has none. -/
def RingE (w : World) (p g room : Nat) (l : List (Nat × Nat)) : Prop :=
  (l = [] ∧ g = p ∧ room ≤ 100000 ∧ Sits w p 113 #[.int .i64 room, .slice none 0 0, .int .i64 0, .int .i64 0]) ∨ ∃ n first, RingCE w p g room n first l

section
variable {w w' : World} {p g room n first : Nat} {l : List (Nat × Nat)}
theorem RingCE.ne (h : RingCE w p g room n first l) : g ≠ p := by
  obtain ⟨cur, hc, _⟩ := h.cells
  exact hc.apart h.sits (by decide)
theorem RingCE.keep (h : RingCE w p g room n first l) (hk : ∀ b t cs, b = p ∨ b = g → Sits w b t cs → Sits w' b t cs) : RingCE w' p g room n first l := by
  obtain ⟨cur, hc, h1, h2⟩ := h.cells
  exact ⟨hk _ _ _ (.inl rfl) h.sits, h.first_lt, h.n_le, h.len_le, h.small, cur, hk _ _ _ (.inr rfl) hc, h1, h2⟩
theorem RingE.keep (h : RingE w p g room l) (hk : ∀ b t cs, b = p ∨ b = g → Sits w b t cs → Sits w' b t cs) : RingE w' p g room l := by
  rcases h with ⟨h1, h2, h3, h4⟩ | ⟨n, f, h⟩
  · exact .inl ⟨h1, h2, h3, hk _ _ _ (.inl rfl) h4⟩
  · exact .inr ⟨n, f, h.keep hk⟩
theorem RingE.below (h : RingE w p g room l) (hb : Below w.heap.size w w') : RingE w' p g room l := h.keep fun _ _ _ _ hs => hs.below' hb
theorem RingCE.below (h : RingCE w p g room n first l) (hb : Below w.heap.size w w') : RingCE w' p g room n first l := h.keep fun _ _ _ _ hs => hs.below' hb
theorem RingE.drewN (h : RingE w p g room l) (k : Nat) : RingE (w.drewN k) p g room l := h.keep fun _ _ _ _ hs => hs
theorem RingCE.drewN (h : RingCE w p g room n first l) (k : Nat) : RingCE (w.drewN k) p g room n first l := h.keep fun _ _ _ _ hs => hs
theorem RingCE.away {q : Nat} (h : RingCE w p g room n first l) (hp : p ≠ q) (hg : g ≠ q) (i : Nat) (u : Value) : RingCE (w.setCell ⟨q, i, none⟩ u) p g room n first l :=
  h.keep fun b t cs hb hs => hs.away (p := ⟨q, i, none⟩) (by rcases hb with rfl | rfl <;> assumption) u
theorem RingE.away {q : Nat} (h : RingE w p g room l) (hp : p ≠ q) (hg : g ≠ q) (i : Nat) (u : Value) : RingE (w.setCell ⟨q, i, none⟩ u) p g room l :=
  h.keep fun b t cs hb hs => hs.away (p := ⟨q, i, none⟩) (by rcases hb with rfl | rfl <;> assumption) u
theorem RingE.head (h : RingE w p g room l) : room ≤ 100000 ∧ l.length ≤ room ∧ ∃ sv first : Value, Sits w p 113 #[.int .i64 room, sv, first, .int .i64 l.length] := by
  rcases h with ⟨rfl, h2, h3, h4⟩ | ⟨n, f, h⟩
  · exact ⟨h3, by simp, _, _, h4⟩
  · exact ⟨h.small, Nat.le_trans h.len_le h.n_le, _, _, h.sits⟩
theorem RingCE.lt (h : RingCE w p g room n first l) : p < w.heap.size ∧ g < w.heap.size := by
  obtain ⟨cur, hc, _⟩ := h.cells
  exact ⟨h.sits.lt, hc.lt⟩
theorem RingE.lt (h : RingE w p g room l) : p < w.heap.size ∧ g < w.heap.size := by
  rcases h with ⟨rfl, h2, h3, h4⟩ | ⟨n, f, h⟩
  · exact ⟨h4.lt, h2 ▸ h4.lt⟩
  · exact h.lt
theorem RingE.full (h : RingE w p g room l) (hl : 0 < l.length) : ∃ n first, RingCE w p g room n first l := by
  rcases h with ⟨rfl, h2, h3, h4⟩ | h
  · simp at hl
  · exact h
end
theorem RingE.intro {w : World} {p g room n first : Nat} {l : List (Nat × Nat)} (h : RingCE w p g room n first l) : RingE w p g room l := .inr ⟨_, _, h⟩
theorem lenE_any (p g room : Nat) (l : List (Nat × Nat)) (w : World) (h : RingE w p g room l) :
    Calls Tryz.prog 138 #[.pointer (some ⟨p, 0, none⟩)] w fun e w' => e = .returned (.int .i64 l.length) ∧ w = w' := by
  obtain ⟨h1, h2, sv, f, hs⟩ := h.head
  have c3 := hs.cell 3
  clear hs h h1 h2
  go_enter Tryz.func138, Tryz.ntmps138
  go_wp2
  go_ret
  exact ⟨rfl, rfl⟩
theorem lenE_nil (w : World) : Calls Tryz.prog 138 #[.pointer none] w fun e w' => e = .returned (.int .i64 0) ∧ w = w' := by
  go_enter Tryz.func138, Tryz.ntmps138
  go_wp2
  go_ret
  exact ⟨rfl, rfl⟩
theorem roomE_any (p g room : Nat) (l : List (Nat × Nat)) (w : World) (h : RingE w p g room l) :
    Calls Tryz.prog 85 #[.pointer (some ⟨p, 0, none⟩)] w fun e w' => e = .returned (.int .i64 (room - l.length)) ∧ ∃ n, w' = w.drewN n := by
  obtain ⟨h1, h2, sv, f, hs⟩ := h.head
  have c0 := hs.cell 0
  have c3 := hs.cell 3
  have hr : IntKind.i64.wrap ((room : Int) - (l.length : Int)) = (room : Int) - (l.length : Int) := IntWalk.i64_in _ (by omega)
  clear hs h h1 h2
  go_enter Tryz.func85, Tryz.ntmps85
  go_wp2
  go_quiet (fail)
  go_wp2
  go_ret
  exact ⟨rfl, _, rfl⟩
theorem hasE_in (p g room : Nat) (l : List (Nat × Nat)) (k : Nat) (w : World) (h : RingE w p g room l) (hk : k < l.length) :
    Calls Tryz.prog 118 #[.pointer (some ⟨p, 0, none⟩), .int .i64 k] w fun e w' => e = .returned (.bool true) ∧ w = w' := by
  have HR := Lib.hid h
  have d1 : decide ((0 : Int) ≤ (k : Int)) = true := by simp
  have d2 : decide (k < l.length) = true := by simp [hk]
  clear h hk
  go_enter Tryz.func118, Tryz.ntmps118
  go_wp2_with fail
  refine (lenE_any p g room l w HR.out).mono ?_
  rintro e w' ⟨rfl, rfl⟩
  go_wp2
  go_ret
  exact ⟨rfl, rfl⟩
theorem hasE_out (p g room : Nat) (l : List (Nat × Nat)) (k : Int) (w : World) (h : RingE w p g room l) (hk : k < 0 ∨ (l.length : Int) ≤ k) :
    Calls Tryz.prog 118 #[.pointer (some ⟨p, 0, none⟩), .int .i64 k] w fun e w' => e = .returned (.bool false) ∧ w = w' := by
  have HR := Lib.hid h
  clear h
  by_cases h0 : k < 0
  · have d1 : decide ((0 : Int) ≤ k) = false := by simp; omega
    clear hk
    go_enter Tryz.func118, Tryz.ntmps118
    go_wp2
    go_ret
    exact ⟨rfl, rfl⟩
  · have d1 : decide ((0 : Int) ≤ k) = true := by simp; omega
    have d2 : decide (k < (l.length : Int)) = false := by simp; omega
    clear hk h0
    go_enter Tryz.func118, Tryz.ntmps118
    go_wp2_with fail
    refine (lenE_any p g room l w HR.out).mono ?_
    rintro e w' ⟨rfl, rfl⟩
    go_wp2
    go_ret
    exact ⟨rfl, rfl⟩
theorem cellE_at (p g n first : Nat) (k : Nat) (rv lv : Value) (w : World) (hs : Sits w p 113 #[rv, .slice (some ⟨g, 0, none⟩) n n, .int .i64 first, lv]) (h1 : first < n) (h2 : n ≤ 100000) (hk : k ≤ 100000) :
    Calls Tryz.prog 87 #[.pointer (some ⟨p, 0, none⟩), .int .i64 k] w fun e w' => e = .returned (.int .i64 ((first + k) % n : Nat)) ∧ ∃ n, w' = w.drewN n := by
  have c1 := hs.cell 1
  have c2 := hs.cell 2
  have hr : IntKind.i64.wrap ((first : Int) + (k : Int)) = ((first + k : Nat) : Int) := by
    rw [← Int.natCast_add]
    exact IntWalk.i64_in _ (by omega)
  have hz : decide ((n : Int) = 0) = false := by simp; omega
  have hq : ((first + k : Nat) : Int).tmod (n : Int) = ((first + k) % n : Nat) := by
    rw [Int.tmod_eq_emod_of_nonneg (by omega)]
    omega
  have hl : ((first + k) % n) < n := Nat.mod_lt _ (by omega)
  have hrr : IntKind.i64.wrap (((first + k) % n : Nat) : Int) = (((first + k) % n : Nat) : Int) := IntWalk.i64_in _ (by omega)
  have hn : (n : Int) ≤ 100000 := by omega
  clear hs h2 hk
  go_enter Tryz.func87, Tryz.ntmps87
  go_wp2
  go_quiet (fail)
  go_wp2
  go_ret
  exact ⟨by simp, _, rfl⟩
theorem cellE_any (p g room n first : Nat) (l : List (Nat × Nat)) (k : Nat) (w : World) (h : RingCE w p g room n first l) (hk : k ≤ 100000) :
    Calls Tryz.prog 87 #[.pointer (some ⟨p, 0, none⟩), .int .i64 k] w fun e w' => e = .returned (.int .i64 ((first + k) % n : Nat)) ∧ ∃ n, w' = w.drewN n :=
  cellE_at p g n first k _ _ w h.sits h.first_lt (Nat.le_trans h.n_le h.small) hk
theorem peekE_out (p g room : Nat) (l : List (Nat × Nat)) (k : Int) (w : World) (h : RingE w p g room l) (hk : k < 0 ∨ (l.length : Int) ≤ k) :
    Calls Tryz.prog 93 #[.pointer (some ⟨p, 0, none⟩), .int .i64 k] w fun e w' => e = .returned (.tuple #[(.agg #[(.int .i64 0), (.int .i64 0)]), .bool false]) ∧ Below w.heap.size w w' := by
  obtain ⟨W1, hW1⟩ : ∃ W, W = w.alloc (.cells #[(.int .i64 0), (.int .i64 0)] 78) := ⟨_, rfl⟩
  have hb : Below w.heap.size w W1 := hW1 ▸ (Below.refl _ w).alloc (Nat.le_refl _) _
  have hs1 : Sits W1 w.heap.size 78 #[(.int .i64 0), (.int .i64 0)] := hW1 ▸ Sits.fresh w _ _
  have HR := Lib.hid (h.below hb)
  have HK := Lib.hid hk
  have hb2 : Below W1.heap.size W1 (W1.alloc (.cells #[(.int .i64 0), (.int .i64 0)] 78)) := (Below.refl _ W1).alloc (Nat.le_refl _) _
  have hs3 := hs1.below' hb2
  have HB := Lib.hid (hb.trans (hb2.mono hb.size))
  have HS := Lib.hid hs3
  have HW : Hid (w.heap.size < W1.heap.size) := Lib.hid hs1.lt
  clear h hk hb hb2 hs1
  go_enter Tryz.func93, Tryz.ntmps93
  go_wp2_with fail
  rw [← hW1]
  clear hW1
  refine (hasE_out p g room l k W1 HR.out HK.out).mono ?_
  rintro e w' ⟨rfl, rfl⟩
  have e0 := hs3.cell 0
  have e1 := hs3.cell 1
  have hz := ((hs3.put 0 (.int .i64 0)).put 1 (.int .i64 0))
  have e0 := hs3.cell 0
  have f0 := hs3.warm 0
  have z0 := hz.cell 0
  have e1 := hs3.cell 1
  have f1 := hs3.warm 1
  have z1 := hz.cell 1
  have HF := Lib.hid (below_put (below_put HB.out (Nat.le_refl _) 0 (.int .i64 0)) (Nat.le_refl _) 1 (.int .i64 0))
  clear hs3 hz
  go_wp2
  refine bodyPost_ret (v := .tuple #[(.agg #[(.int .i64 0), (.int .i64 0)]), .bool false]) ?_ rfl ⟨rfl, HF.out⟩
  simp [results, Tryz.results93, go_sem, z0, z1]
theorem peekE_in (p g room : Nat) (l : List (Nat × Nat)) (k : Nat) (w : World) (h : RingE w p g room l) (hk : k < l.length) :
    Calls Tryz.prog 93 #[.pointer (some ⟨p, 0, none⟩), .int .i64 k] w fun e w' => e = .returned (.tuple #[(.agg #[(.int .i64 (l[k].1 : Int)), (.int .i64 (l[k].2 : Int))]), .bool true]) ∧ Below w.heap.size w w' := by
  obtain ⟨W1, hW1⟩ : ∃ W, W = w.alloc (.cells #[(.int .i64 0), (.int .i64 0)] 78) := ⟨_, rfl⟩
  have hb : Below w.heap.size w W1 := hW1 ▸ (Below.refl _ w).alloc (Nat.le_refl _) _
  have hs1 : Sits W1 w.heap.size 78 #[(.int .i64 0), (.int .i64 0)] := hW1 ▸ Sits.fresh w _ _
  obtain ⟨n, first, hc0⟩ := h.full (by omega)
  have hc := hc0.below hb
  have HR := Lib.hid (h.below hb)
  have c1 := hc.sits.cell 1
  have hs := hc.small
  have hn := hc.n_le
  obtain ⟨cur, hg, hz, hcur⟩ := hc.cells
  have cg0 := hg.cell (((first + k) % n) * 2)
  have cg1 := hg.cell (((first + k) % n) * 2 + 1)
  obtain ⟨hq0, hq1⟩ := hcur k hk
  rw [hq0] at cg0
  clear hq0
  rw [hq1] at cg1
  clear hq1
  have hlt : ((first + k) % n) < n := Nat.mod_lt _ (by have := hc.first_lt; omega)
  obtain ⟨m, hm⟩ : ∃ m, m = (first + k) % n := ⟨_, rfl⟩
  rw [← hm] at cg0 cg1 hlt
  generalize l[k] = x at cg0 cg1 ⊢
  have hcell := fun W (hW : RingCE W p g room n first l) => cellE_any p g room n first l k W hW (by have := hc.len_le; omega)
  rw [← hm] at hcell
  have HCELL := Lib.hid hcell
  have HC := Lib.hid hc
  have HK := Lib.hid hk
  have hn2 : (n : Int) ≤ 100000 := by omega
  have HB := Lib.hid hb
  have HS := Lib.hid hs1
  have hgw : g ≠ w.heap.size := by have := hc0.lt; omega
  have e0 := hs1.cell 0
  have f0 := hs1.warm 0
  have e1 := hs1.cell 1
  have f1 := hs1.warm 1
  have hx := fun j => (((hs1.drewN j).put 0 (.int .i64 (x.1 : Int))).put 1 (.int .i64 (x.2 : Int)))
  have x0 := fun j => (hx j).cell 0
  have x1 := fun j => (hx j).cell 1
  have HX := Lib.hid (And.intro x0 (x1))
  clear hx x0 x1
  have HF := Lib.hid (fun j => (below_put (below_put (below_drewN hb j) (Nat.le_refl _) 0 (.int .i64 (x.1 : Int))) (Nat.le_refl _) 1 (.int .i64 (x.2 : Int))))
  clear h hk hc0 hc hg hcur hz hs hm hn hcell hb hs1
  go_enter Tryz.func93, Tryz.ntmps93
  go_wp2_with fail
  rw [← hW1]
  clear hW1
  refine (hasE_in p g room l k W1 HR.out HK.out).mono ?_
  rintro e w' ⟨rfl, rfl⟩
  go_wp2_with fail
  go_region_with (refine (HCELL.out _ (HC.out.drewN _)).mono ?_; rintro e w' ⟨rfl, nn, rfl⟩)
  all_goals go_wp2
  all_goals refine bodyPost_ret (v := .tuple #[(.agg #[(.int .i64 (x.1 : Int)), (.int .i64 (x.2 : Int))]), .bool true]) ?_ rfl ⟨rfl, HF.out _⟩
  all_goals simp [results, Tryz.results93, go_sem, HX.out]
end Go.Proofs.YtlaclbcckadmkaaGreat
namespace Go.Proofs.YtlaclbcckadmkaaGreat
open Go Go.RowKit
set_option maxRecDepth 100000
set_option maxHeartbeats 1000000
set_option linter.unusedSimpArgs false

theorem RingCE.leaves {w : World} {p g room n first : Nat} {x : (Nat × Nat)} {l : List (Nat × Nat)} (h : RingCE w p g room n first (x :: l)) (a b : Nat) :
    RingCE ((((((w.drewN a).setCell ⟨g, first * 2, none⟩ (.int .i64 0)).setCell ⟨g, first * 2 + 1, none⟩ (.int .i64 0)).drewN b).setCell ⟨p, 2, none⟩ (.int .i64 ((first + 1) % n : Nat))).setCell ⟨p, 3, none⟩ (.int .i64 l.length)) p g room n ((first + 1) % n) l := by
  have hne := h.ne
  obtain ⟨cur, hg, hz, hc⟩ := h.cells
  have hf := h.first_lt
  have hl := h.len_le
  simp only [List.length_cons] at hl
  have hlt : (first + 1) % n < n := Nat.mod_lt _ (by omega)
  refine ⟨(((((h.sits.drewN a).away (p := ⟨g, first * 2, none⟩) (Ne.symm hne) (.int .i64 0)).away (p := ⟨g, first * 2 + 1, none⟩) (Ne.symm hne) (.int .i64 0)).drewN b).put 2 _).put 3 _, hlt, h.n_le, by omega, h.small, _, (((((hg.drewN a).put (first * 2) (.int .i64 0)).put (first * 2 + 1) (.int .i64 0)).drewN b).away (p := ⟨p, 2, none⟩) hne _).away (p := ⟨p, 3, none⟩) hne _, by simp [hz], fun i hi => ?_⟩
  have e1 : ((first + 1) % n + i) % n = (first + (i + 1)) % n := by
    rw [Nat.add_mod, Nat.mod_mod, ← Nat.add_mod]
    congr 1
    omega
  have e2 : first ≠ (first + (i + 1)) % n := by
    intro e3
    rcases Nat.lt_or_ge (first + (i + 1)) n with h1 | h1
    · rw [Nat.mod_eq_of_lt h1] at e3; omega
    · rw [Nat.mod_eq_sub_mod h1, Nat.mod_eq_of_lt (by omega)] at e3; omega
  have e4 := hc (i + 1) (by simpa using hi)
  rw [e1]
  generalize (first + (i + 1)) % n = m at e2 e4 ⊢
  simp only [Array.getElem?_setIfInBounds]
  refine ⟨?_, ?_⟩
  · rw [if_neg (by omega), if_neg (by omega)]; exact e4.1
  · rw [if_neg (by omega), if_neg (by omega)]; exact e4.2
theorem leaveE_any (p g room : Nat) (x : (Nat × Nat)) (l : List (Nat × Nat)) (w : World) (h : RingE w p g room (x :: l)) :
    Calls Tryz.prog 94 #[.pointer (some ⟨p, 0, none⟩)] w fun e w' => e = .returned (.tuple #[]) ∧ RingE w' p g room l ∧ Two p g w w' := by
  obtain ⟨W1, hW1⟩ : ∃ W, W = w.alloc (.cells #[(.int .i64 0), (.int .i64 0)] 78) := ⟨_, rfl⟩
  have hb : Below w.heap.size w W1 := hW1 ▸ (Below.refl _ w).alloc (Nat.le_refl _) _
  have hs1 : Sits W1 w.heap.size 78 #[(.int .i64 0), (.int .i64 0)] := hW1 ▸ Sits.fresh w _ _
  obtain ⟨n, first, hc0⟩ := h.full (by simp)
  have hc := hc0.below hb
  have hne := hc.ne
  have hs := hc.small
  have hl := hc.len_le
  have hn := hc.n_le
  have hf := hc.first_lt
  have hk : 0 < (x :: l).length := by simp
  obtain ⟨cur, hg, hz, hcur⟩ := hc.cells
  have e0 : (first + 0) % n = first := Nat.mod_eq_of_lt (by omega)
  have e1 := hcur 0 hk
  rw [e0] at e1
  simp only [List.getElem_cons_zero] at e1
  obtain ⟨hq0, hq1⟩ := e1
  have cg0 := hg.cell (first * 2)
  rw [hq0] at cg0
  clear hq0
  have fg0 := hg.warm (first * 2)
  have cg1 := hg.cell (first * 2 + 1)
  rw [hq1] at cg1
  clear hq1
  have fg1 := hg.warm (first * 2 + 1)
  have c1 := hc.sits.cell 1
  have c2 := hc.sits.cell 2
  have c3 := hc.sits.cell 3
  have f2 := hc.sits.warm 2
  have f3 := hc.sits.warm 3
  have v0 := hs1.cell 0
  have v1 := hs1.cell 1
  have hlen : ((x :: l).length : Int) = (l.length : Int) + 1 := by simp
  rw [hlen] at c3
  have hl2 : (l.length : Int) ≤ 100000 := by simp only [List.length_cons] at hl; omega
  have hone : Two p g w W1 := Two.of_below p g hb
  have HF := Lib.hid (fun a b => (RingE.intro (hc.leaves a b) : RingE _ p g room l))
  have HT := Lib.hid (fun a b => ((((((hone.drewN a).store2 (first * 2) (.int .i64 0)).store2 (first * 2 + 1) (.int .i64 0)).drewN b).store1 2 (.int .i64 ((first + 1) % n : Nat))).store1 3 (.int .i64 l.length)))
  have HS := Lib.hid (fun a => (((hc.sits.drewN a).away (p := ⟨g, first * 2, none⟩) (Ne.symm hne) (.int .i64 0)).away (p := ⟨g, first * 2 + 1, none⟩) (Ne.symm hne) (.int .i64 0)))
  have HN : Hid (n ≤ 100000) := Lib.hid (by omega)
  have hfi : (first : Int) < (n : Int) := by omega
  have HFN := Lib.hid hf
  have hn2 : (n : Int) ≤ 100000 := by omega
  have hgw : g ≠ w.heap.size ∧ p ≠ w.heap.size := by have := hc0.lt; omega
  clear h hc hc0 hg hcur hz hs hl hn e0 hk hlen hone hb hs1
  go_enter Tryz.func94, Tryz.ntmps94
  go_wp2_with fail
  rw [← hW1]
  clear hW1
  go_region
  all_goals go_wp2_with fail
  all_goals refine (cellE_at p g n first 1 _ _ _ (HS.out _) HFN.out HN.out (by omega)).mono ?_
  all_goals rintro e w' ⟨rfl, k, rfl⟩
  all_goals go_wp2
  all_goals go_end0
  all_goals have e2 : (((first : Int) + 1) % (n : Int)) = (((first + 1) % n : Nat) : Int) := by simp
  all_goals rw [e2]
  all_goals exact ⟨rfl, HF.out _ _, HT.out _ _⟩
theorem popE_cons (p g room : Nat) (x : (Nat × Nat)) (l : List (Nat × Nat)) (w : World) (h : RingE w p g room (x :: l)) :
    Calls Tryz.prog 48 #[.pointer (some ⟨p, 0, none⟩)] w fun e w' => e = .returned (.tuple #[(.agg #[(.int .i64 (x.1 : Int)), (.int .i64 (x.2 : Int))]), .bool true]) ∧ RingE w' p g room l ∧ Two p g w w' := by
  obtain ⟨W1, hW1⟩ : ∃ W, W = w.alloc (.cells #[(.int .i64 0), (.int .i64 0)] 78) := ⟨_, rfl⟩
  have hb : Below w.heap.size w W1 := hW1 ▸ (Below.refl _ w).alloc (Nat.le_refl _) _
  have hs1 : Sits W1 w.heap.size 78 #[(.int .i64 0), (.int .i64 0)] := hW1 ▸ Sits.fresh w _ _
  have HR := Lib.hid (h.below hb)
  have HB := Lib.hid hb
  have HS := Lib.hid hs1
  have HPK : Hid (∀ W, RingE W p g room (x :: l) → Calls Tryz.prog 93 #[.pointer (some ⟨p, 0, none⟩), .int .i64 0] W fun e w' => e = .returned (.tuple #[(.agg #[(.int .i64 (x.1 : Int)), (.int .i64 (x.2 : Int))]), .bool true]) ∧ Below W.heap.size W w') := Lib.hid fun W hW => by
    have := peekE_in p g room (x :: l) 0 W hW (by simp)
    simpa using this
  have HLT := Lib.hid h.lt
  clear h hb hs1
  go_enter Tryz.func48, Tryz.ntmps48
  go_wp2_with fail
  rw [← hW1]
  clear hW1
  refine (HPK.out W1 HR.out).mono ?_
  rintro e w2 ⟨rfl, hb⟩
  have HR2 := Lib.hid (HR.out.below hb)
  have HS2 := Lib.hid (HS.out.below' hb)
  have HB2 := Lib.hid (HB.out.trans (hb.mono HB.out.size))
  clear hb HR HS HB
  obtain ⟨W3, hW3⟩ : ∃ W, W = w2.alloc (.cells #[(.int .i64 (x.1 : Int)), (.int .i64 (x.2 : Int))] 78) := ⟨_, rfl⟩
  have hb : Below w2.heap.size w2 W3 := hW3 ▸ (Below.refl _ w2).alloc (Nat.le_refl _) _
  have HS4 : Hid (Sits W3 w2.heap.size 78 #[(.int .i64 (x.1 : Int)), (.int .i64 (x.2 : Int))]) := Lib.hid (hW3 ▸ Sits.fresh w2 _ _)
  have HR3 := Lib.hid (HR2.out.below hb)
  have HS3 := Lib.hid (HS2.out.below' hb)
  have HB3 := Lib.hid (HB2.out.trans (hb.mono HB2.out.size))
  have HLT2 : Hid (w.heap.size < w2.heap.size) := Lib.hid HS2.out.lt
  obtain ⟨q, hq⟩ : ∃ q, q = w2.heap.size := ⟨_, rfl⟩
  rw [← hq] at HS4 HLT2
  have HQ : Hid (p < q ∧ g < q) := Lib.hid (by have := HLT.out; have := HLT2.out; omega)
  clear hb HR2 HS2 HB2
  go_wp2_with fail
  rw [← hW3, ← hq]
  clear hW3 hq
  refine (leaveE_any p g room x l W3 HR3.out).mono ?_
  rintro e w4 ⟨rfl, hR, hT⟩
  have hz := HS4.out.two hT (by have := HQ.out; omega) (by have := HQ.out; omega)
  have hy := HS3.out.two hT (by have := HLT.out; omega) (by have := HLT.out; omega)
  have z0 := hz.cell 0
  have y0 := hy.cell 0
  have f0 := hy.warm 0
  have z1 := hz.cell 1
  have y1 := hy.cell 1
  have f1 := hy.warm 1
  have hw := ((hy.put 0 (.int .i64 (x.1 : Int))).put 1 (.int .i64 (x.2 : Int)))
  have x0 := hw.cell 0
  have x1 := hw.cell 1
  have HR := Lib.hid ((hR.away (q := w.heap.size) (by have := HLT.out; omega) (by have := HLT.out; omega) 0 (.int .i64 (x.1 : Int))).away (q := w.heap.size) (by have := HLT.out; omega) (by have := HLT.out; omega) 1 (.int .i64 (x.2 : Int)))
  have HT := Lib.hid ((((Two.of_below p g HB3.out).trans hT (.inl rfl)).put_new (Nat.le_refl _) 0 (.int .i64 (x.1 : Int))).put_new (Nat.le_refl _) 1 (.int .i64 (x.2 : Int)))
  clear hR hT hz hy HR3 HS3 HB3 hw
  go_wp2
  refine bodyPost_ret (v := .tuple #[(.agg #[(.int .i64 (x.1 : Int)), (.int .i64 (x.2 : Int))]), .bool true]) ?_ rfl ⟨rfl, HR.out, HT.out⟩
  simp [results, Tryz.results48, go_sem, x0, x1]
theorem infoE : (Tryz.prog.info? 78).map (fun i => (i.zero, i.size, i.bytes)) = some (some (.agg #[(.int .i64 0), (.int .i64 0)]), 2, 16) := by kernel_rfl
theorem boundedE (k : Int) (w : World) (m : Nat) (hm : m = min k.toNat 100000) :
    Calls Tryz.prog 76 #[.int .i64 k] w fun e w' => e = .returned (.int .i64 m) ∧ w = w' := by
  obtain ⟨q, hq⟩ : ∃ q : Nat, q = k.toNat := ⟨_, rfl⟩
  have HX : Hid (max k 0 = (q : Int)) := Lib.hid (by omega)
  have HM : Hid (min (q : Int) 100000 = (m : Int)) := Lib.hid (by omega)
  clear hq hm
  go_enter Tryz.func76, Tryz.ntmps76
  go_wp2_with (first | ((with_reducible refine at_list ?_); refine wpList_max_eq rfl (.tmp 3) (.const (.int .i64 0)) _ rfl _ _ _ _ _ rfl rfl HX.out ?_) | ((with_reducible refine at_list ?_); refine wpList_min_eq rfl (.tmp 4) (.const (.int .i64 100000)) _ rfl _ _ _ _ _ rfl rfl HM.out ?_))
  go_ret
  exact ⟨rfl, rfl⟩
theorem newE_any (k : Int) (w : World) (m : Nat) (hm : m = min k.toNat 100000) :
    Calls Tryz.prog 36 #[.int .i64 k] w fun e w' => e = .returned (.pointer (some ⟨w.heap.size, 0, none⟩)) ∧ RingE w' w.heap.size w.heap.size m [] ∧ Below w.heap.size w w' := by
  have HM := Lib.hid hm
  clear hm
  go_enter Tryz.func36, Tryz.ntmps36
  go_wp2_with fail
  refine (boundedE k w m HM.out).mono ?_
  rintro e w' ⟨rfl, rfl⟩
  go_wp2
  go_ret
  exact ⟨rfl, .inl ⟨rfl, rfl, by have := HM.out; omega, Sits.fresh w _ _⟩, (Below.refl w.heap.size w).alloc (Nat.le_refl _) _⟩
end Go.Proofs.YtlaclbcckadmkaaGreat
