/- Package ring: a ring of elements of several cells in memory, and what its methods answer and leave. -/
import Derived.Test.YtkfbljbhdjnggaaTwo
import Derived.Test.YtkfbljbhdjnggaaRow
import Derived.Laws.MakeOwn
import Derived.Laws.CopyRow
import Derived.BigQuiet
import Derived.Deep.RegionHeld3
import Derived.BigRegion
import Derived.Test.YtkfbljbhdjnggaaNetP
namespace Go.Proofs.Ytkfbljbhdjnggaa
open Go Go.RowKit
set_option maxRecDepth 100000
set_option maxHeartbeats 1000000
set_option linter.unusedSimpArgs false

theorem wide_ne {W a b i j : Nat} (hi : i < W) (hj : j < W) (h : a * W + i = b * W + j) : a = b ∧ i = j := by
  have h1 : (a * W + i) / W = a := by rw [Nat.mul_comm, Nat.mul_add_div (by omega), Nat.div_eq_of_lt hi, Nat.add_zero]
  have h2 : (b * W + j) / W = b := by rw [Nat.mul_comm, Nat.mul_add_div (by omega), Nat.div_eq_of_lt hj, Nat.add_zero]
  have h3 : a = b := by rw [← h1, ← h2, h]
  subst h3
  exact ⟨rfl, by omega⟩
theorem Two.put_new {p g : Nat} {a w : World} {q : Nat} (h : Two p g a w) (hq : a.heap.size ≤ q) (i : Nat) (u : Value) : Two p g a (w.setCell ⟨q, i, none⟩ u) :=
  ⟨h.os, h.tape, h.output, by simpa [World.setCell] using h.size, fun k hk hp hg => (Below.heap_setCell w ⟨q, i, none⟩ u k (show k ≠ q by omega)).trans (h.block k hk hp hg)⟩
theorem round_ne {n first a b : Nat} (hf : first < n) (ha : a < n) (hb : b < n) (h : a ≠ b) : (first + a) % n ≠ (first + b) % n := by
  intro e
  rcases Nat.lt_or_ge (first + a) n with h1 | h1 <;> rcases Nat.lt_or_ge (first + b) n with h2 | h2
  · rw [Nat.mod_eq_of_lt h1, Nat.mod_eq_of_lt h2] at e; omega
  · rw [Nat.mod_eq_of_lt h1, Nat.mod_eq_sub_mod h2, Nat.mod_eq_of_lt (by omega)] at e; omega
  · rw [Nat.mod_eq_of_lt h2, Nat.mod_eq_sub_mod h1, Nat.mod_eq_of_lt (by omega)] at e; omega
  · rw [Nat.mod_eq_sub_mod h1, Nat.mod_eq_sub_mod h2, Nat.mod_eq_of_lt (by omega), Nat.mod_eq_of_lt (by omega)] at e; omega
/-- At p lies a ring of so much room, whose n cells lie at g and begin at first: it holds l. -/
structure RingCK (w : World) (p g room n first : Nat) (l : List Pk) : Prop where
  sits : Sits w p 73 #[.int .i64 room, .slice (some ⟨g, 0, none⟩) n n, .int .i64 first, .int .i64 l.length]
  first_lt : first < n
  n_le : n ≤ room
  len_le : l.length ≤ n
  small : room ≤ 100000
  cells : ∃ cur : Array Value, Sits w g 45 cur ∧ cur.size = n * 3 ∧ ∀ i (h : i < l.length), cur[((first + i) % n) * 3]? = some (.int .i64 l[i].f) ∧ cur[((first + i) % n) * 3 + 1]? = some (.int .i64 l[i].t) ∧ cur[((first + i) % n) * 3 + 2]? = some (.string (str l[i].d))
/-- At p lies a ring of so much room that holds l; g: where its cells lie, or p if it has none. -/
def RingK (w : World) (p g room : Nat) (l : List Pk) : Prop :=
  (l = [] ∧ g = p ∧ room ≤ 100000 ∧ Sits w p 73 #[.int .i64 room, .slice none 0 0, .int .i64 0, .int .i64 0]) ∨ ∃ n first, RingCK w p g room n first l

section
variable {w w' : World} {p g room n first : Nat} {l : List Pk}
theorem RingCK.ne (h : RingCK w p g room n first l) : g ≠ p := by
  obtain ⟨cur, hc, _⟩ := h.cells
  exact hc.apart h.sits (by decide)
theorem RingCK.keep (h : RingCK w p g room n first l) (hk : ∀ b t cs, b = p ∨ b = g → Sits w b t cs → Sits w' b t cs) : RingCK w' p g room n first l := by
  obtain ⟨cur, hc, h1, h2⟩ := h.cells
  exact ⟨hk _ _ _ (.inl rfl) h.sits, h.first_lt, h.n_le, h.len_le, h.small, cur, hk _ _ _ (.inr rfl) hc, h1, h2⟩
theorem RingK.keep (h : RingK w p g room l) (hk : ∀ b t cs, b = p ∨ b = g → Sits w b t cs → Sits w' b t cs) : RingK w' p g room l := by
  rcases h with ⟨h1, h2, h3, h4⟩ | ⟨n, f, h⟩
  · exact .inl ⟨h1, h2, h3, hk _ _ _ (.inl rfl) h4⟩
  · exact .inr ⟨n, f, h.keep hk⟩
theorem RingK.below (h : RingK w p g room l) (hb : Below w.heap.size w w') : RingK w' p g room l := h.keep fun _ _ _ _ hs => hs.below' hb
theorem RingCK.below (h : RingCK w p g room n first l) (hb : Below w.heap.size w w') : RingCK w' p g room n first l := h.keep fun _ _ _ _ hs => hs.below' hb
theorem RingK.drewN (h : RingK w p g room l) (k : Nat) : RingK (w.drewN k) p g room l := h.keep fun _ _ _ _ hs => hs
theorem RingCK.drewN (h : RingCK w p g room n first l) (k : Nat) : RingCK (w.drewN k) p g room n first l := h.keep fun _ _ _ _ hs => hs
theorem RingCK.away {q : Nat} (h : RingCK w p g room n first l) (hp : p ≠ q) (hg : g ≠ q) (i : Nat) (u : Value) : RingCK (w.setCell ⟨q, i, none⟩ u) p g room n first l :=
  h.keep fun b t cs hb hs => hs.away (p := ⟨q, i, none⟩) (by rcases hb with rfl | rfl <;> assumption) u
theorem RingK.away {q : Nat} (h : RingK w p g room l) (hp : p ≠ q) (hg : g ≠ q) (i : Nat) (u : Value) : RingK (w.setCell ⟨q, i, none⟩ u) p g room l :=
  h.keep fun b t cs hb hs => hs.away (p := ⟨q, i, none⟩) (by rcases hb with rfl | rfl <;> assumption) u
theorem RingK.head (h : RingK w p g room l) : room ≤ 100000 ∧ l.length ≤ room ∧ ∃ sv first : Value, Sits w p 73 #[.int .i64 room, sv, first, .int .i64 l.length] := by
  rcases h with ⟨rfl, h2, h3, h4⟩ | ⟨n, f, h⟩
  · exact ⟨h3, by simp, _, _, h4⟩
  · exact ⟨h.small, Nat.le_trans h.len_le h.n_le, _, _, h.sits⟩
theorem RingCK.lt (h : RingCK w p g room n first l) : p < w.heap.size ∧ g < w.heap.size := by
  obtain ⟨cur, hc, _⟩ := h.cells
  exact ⟨h.sits.lt, hc.lt⟩
theorem RingK.lt (h : RingK w p g room l) : p < w.heap.size ∧ g < w.heap.size := by
  rcases h with ⟨rfl, h2, h3, h4⟩ | ⟨n, f, h⟩
  · exact ⟨h4.lt, h2 ▸ h4.lt⟩
  · exact h.lt
theorem RingK.full (h : RingK w p g room l) (hl : 0 < l.length) : ∃ n first, RingCK w p g room n first l := by
  rcases h with ⟨rfl, h2, h3, h4⟩ | h
  · simp at hl
  · exact h
end
theorem RingK.intro {w : World} {p g room n first : Nat} {l : List Pk} (h : RingCK w p g room n first l) : RingK w p g room l := .inr ⟨_, _, h⟩
theorem lenK_any (p g room : Nat) (l : List Pk) (w : World) (h : RingK w p g room l) :
    Calls Try.prog 42 #[.pointer (some ⟨p, 0, none⟩)] w fun e w' => e = .returned (.int .i64 l.length) ∧ w = w' := by
  obtain ⟨h1, h2, sv, f, hs⟩ := h.head
  have c3 := hs.cell 3
  clear hs h h1 h2
  go_enter Try.func42, Try.ntmps42
  go_wp2
  go_ret
  exact ⟨rfl, rfl⟩
theorem lenK_nil (w : World) : Calls Try.prog 42 #[.pointer none] w fun e w' => e = .returned (.int .i64 0) ∧ w = w' := by
  go_enter Try.func42, Try.ntmps42
  go_wp2
  go_ret
  exact ⟨rfl, rfl⟩
theorem roomK_any (p g room : Nat) (l : List Pk) (w : World) (h : RingK w p g room l) :
    Calls Try.prog 44 #[.pointer (some ⟨p, 0, none⟩)] w fun e w' => e = .returned (.int .i64 (room - l.length)) ∧ ∃ n, w' = w.drewN n := by
  obtain ⟨h1, h2, sv, f, hs⟩ := h.head
  have c0 := hs.cell 0
  have c3 := hs.cell 3
  have hr : IntKind.i64.wrap ((room : Int) - (l.length : Int)) = (room : Int) - (l.length : Int) := IntWalk.i64_in _ (by omega)
  clear hs h h1 h2
  go_enter Try.func44, Try.ntmps44
  go_wp2
  go_quiet (fail)
  go_wp2
  go_ret
  exact ⟨rfl, _, rfl⟩
theorem hasK_in (p g room : Nat) (l : List Pk) (k : Nat) (w : World) (h : RingK w p g room l) (hk : k < l.length) :
    Calls Try.prog 47 #[.pointer (some ⟨p, 0, none⟩), .int .i64 k] w fun e w' => e = .returned (.bool true) ∧ w = w' := by
  have HR := Lib.hid h
  have d1 : decide ((0 : Int) ≤ (k : Int)) = true := by simp
  have d2 : decide (k < l.length) = true := by simp [hk]
  clear h hk
  go_enter Try.func47, Try.ntmps47
  go_wp2_with fail
  refine (lenK_any p g room l w HR.out).mono ?_
  rintro e w' ⟨rfl, rfl⟩
  go_wp2
  go_ret
  exact ⟨rfl, rfl⟩
theorem hasK_out (p g room : Nat) (l : List Pk) (k : Int) (w : World) (h : RingK w p g room l) (hk : k < 0 ∨ (l.length : Int) ≤ k) :
    Calls Try.prog 47 #[.pointer (some ⟨p, 0, none⟩), .int .i64 k] w fun e w' => e = .returned (.bool false) ∧ w = w' := by
  have HR := Lib.hid h
  clear h
  by_cases h0 : k < 0
  · have d1 : decide ((0 : Int) ≤ k) = false := by simp; omega
    clear hk
    go_enter Try.func47, Try.ntmps47
    go_wp2
    go_ret
    exact ⟨rfl, rfl⟩
  · have d1 : decide ((0 : Int) ≤ k) = true := by simp; omega
    have d2 : decide (k < (l.length : Int)) = false := by simp; omega
    clear hk h0
    go_enter Try.func47, Try.ntmps47
    go_wp2_with fail
    refine (lenK_any p g room l w HR.out).mono ?_
    rintro e w' ⟨rfl, rfl⟩
    go_wp2
    go_ret
    exact ⟨rfl, rfl⟩
theorem cellK_at (p g n first : Nat) (k : Nat) (rv lv : Value) (w : World) (hs : Sits w p 73 #[rv, .slice (some ⟨g, 0, none⟩) n n, .int .i64 first, lv]) (h1 : first < n) (h2 : n ≤ 100000) (hk : k ≤ 100000) :
    Calls Try.prog 46 #[.pointer (some ⟨p, 0, none⟩), .int .i64 k] w fun e w' => e = .returned (.int .i64 ((first + k) % n : Nat)) ∧ ∃ n, w' = w.drewN n := by
  have c1 := hs.cell 1
  have c2 := hs.cell 2
  have hr : IntKind.i64.wrap ((first : Int) + (k : Int)) = ((first + k : Nat) : Int) := by
    rw [← Int.natCast_add]
    exact IntWalk.i64_in _ (by omega)
  have hz : decide ((n : Int) = 0) = false := by simp; omega
  have hq : ((first + k : Nat) : Int).tmod (n : Int) = ((first + k) % n : Nat) := by
    rw [Int.tmod_eq_emod_of_nonneg (by omega)]
    omega
  have hl : ((first + k) % n) < n := Nat.mod_lt _ (by omega)
  have hrr : IntKind.i64.wrap (((first + k) % n : Nat) : Int) = (((first + k) % n : Nat) : Int) := IntWalk.i64_in _ (by omega)
  have hn : (n : Int) ≤ 100000 := by omega
  clear hs h2 hk
  go_enter Try.func46, Try.ntmps46
  go_wp2
  go_quiet (fail)
  go_wp2
  go_ret
  exact ⟨by simp, _, rfl⟩
theorem cellK_any (p g room n first : Nat) (l : List Pk) (k : Nat) (w : World) (h : RingCK w p g room n first l) (hk : k ≤ 100000) :
    Calls Try.prog 46 #[.pointer (some ⟨p, 0, none⟩), .int .i64 k] w fun e w' => e = .returned (.int .i64 ((first + k) % n : Nat)) ∧ ∃ n, w' = w.drewN n :=
  cellK_at p g n first k _ _ w h.sits h.first_lt (Nat.le_trans h.n_le h.small) hk
theorem peekK_out (p g room : Nat) (l : List Pk) (k : Int) (w : World) (h : RingK w p g room l) (hk : k < 0 ∨ (l.length : Int) ≤ k) :
    Calls Try.prog 37 #[.pointer (some ⟨p, 0, none⟩), .int .i64 k] w fun e w' => e = .returned (.tuple #[(.agg #[(.int .i64 0), (.int .i64 0), (.string ⟨#[]⟩)]), .bool false]) ∧ Below w.heap.size w w' := by
  obtain ⟨W1, hW1⟩ : ∃ W, W = w.alloc (.cells #[(.int .i64 0), (.int .i64 0), (.string ⟨#[]⟩)] 45) := ⟨_, rfl⟩
  have hb : Below w.heap.size w W1 := hW1 ▸ (Below.refl _ w).alloc (Nat.le_refl _) _
  have hs1 : Sits W1 w.heap.size 45 #[(.int .i64 0), (.int .i64 0), (.string ⟨#[]⟩)] := hW1 ▸ Sits.fresh w _ _
  have HR := Lib.hid (h.below hb)
  have HK := Lib.hid hk
  have hb2 : Below W1.heap.size W1 (W1.alloc (.cells #[(.int .i64 0), (.int .i64 0), (.string ⟨#[]⟩)] 45)) := (Below.refl _ W1).alloc (Nat.le_refl _) _
  have hs3 := hs1.below' hb2
  have HB := Lib.hid (hb.trans (hb2.mono hb.size))
  have HS := Lib.hid hs3
  have HW : Hid (w.heap.size < W1.heap.size) := Lib.hid hs1.lt
  clear h hk hb hb2 hs1
  go_enter Try.func37, Try.ntmps37
  go_wp2_with fail
  rw [← hW1]
  clear hW1
  refine (hasK_out p g room l k W1 HR.out HK.out).mono ?_
  rintro e w' ⟨rfl, rfl⟩
  have e0 := hs3.cell 0
  have e1 := hs3.cell 1
  have e2 := hs3.cell 2
  have hz := (((hs3.put 0 (.int .i64 0)).put 1 (.int .i64 0)).put 2 (.string ⟨#[]⟩))
  have e0 := hs3.cell 0
  have f0 := hs3.warm 0
  have z0 := hz.cell 0
  have e1 := hs3.cell 1
  have f1 := hs3.warm 1
  have z1 := hz.cell 1
  have e2 := hs3.cell 2
  have f2 := hs3.warm 2
  have z2 := hz.cell 2
  have HF := Lib.hid (below_put (below_put (below_put HB.out (Nat.le_refl _) 0 (.int .i64 0)) (Nat.le_refl _) 1 (.int .i64 0)) (Nat.le_refl _) 2 (.string ⟨#[]⟩))
  clear hs3 hz
  go_wp2
  refine bodyPost_ret (v := .tuple #[(.agg #[(.int .i64 0), (.int .i64 0), (.string ⟨#[]⟩)]), .bool false]) ?_ rfl ⟨rfl, HF.out⟩
  simp [results, Try.results37, go_sem, z0, z1, z2]
theorem peekK_in (p g room : Nat) (l : List Pk) (k : Nat) (w : World) (h : RingK w p g room l) (hk : k < l.length) :
    Calls Try.prog 37 #[.pointer (some ⟨p, 0, none⟩), .int .i64 k] w fun e w' => e = .returned (.tuple #[(.agg #[(.int .i64 l[k].f), (.int .i64 l[k].t), (.string (str l[k].d))]), .bool true]) ∧ Below w.heap.size w w' := by
  obtain ⟨W1, hW1⟩ : ∃ W, W = w.alloc (.cells #[(.int .i64 0), (.int .i64 0), (.string ⟨#[]⟩)] 45) := ⟨_, rfl⟩
  have hb : Below w.heap.size w W1 := hW1 ▸ (Below.refl _ w).alloc (Nat.le_refl _) _
  have hs1 : Sits W1 w.heap.size 45 #[(.int .i64 0), (.int .i64 0), (.string ⟨#[]⟩)] := hW1 ▸ Sits.fresh w _ _
  obtain ⟨n, first, hc0⟩ := h.full (by omega)
  have hc := hc0.below hb
  have HR := Lib.hid (h.below hb)
  have c1 := hc.sits.cell 1
  have hs := hc.small
  have hn := hc.n_le
  obtain ⟨cur, hg, hz, hcur⟩ := hc.cells
  have cg0 := hg.cell (((first + k) % n) * 3)
  have cg1 := hg.cell (((first + k) % n) * 3 + 1)
  have cg2 := hg.cell (((first + k) % n) * 3 + 2)
  obtain ⟨hq0, hq1, hq2⟩ := hcur k hk
  rw [hq0] at cg0
  clear hq0
  rw [hq1] at cg1
  clear hq1
  rw [hq2] at cg2
  clear hq2
  have hlt : ((first + k) % n) < n := Nat.mod_lt _ (by have := hc.first_lt; omega)
  obtain ⟨m, hm⟩ : ∃ m, m = (first + k) % n := ⟨_, rfl⟩
  rw [← hm] at cg0 cg1 cg2 hlt
  generalize l[k] = x at cg0 cg1 cg2 ⊢
  have hcell := fun W (hW : RingCK W p g room n first l) => cellK_any p g room n first l k W hW (by have := hc.len_le; omega)
  rw [← hm] at hcell
  have HCELL := Lib.hid hcell
  have HC := Lib.hid hc
  have HK := Lib.hid hk
  have hn2 : (n : Int) ≤ 100000 := by omega
  have HB := Lib.hid hb
  have HS := Lib.hid hs1
  have hgw : g ≠ w.heap.size := by have := hc0.lt; omega
  have e0 := hs1.cell 0
  have f0 := hs1.warm 0
  have e1 := hs1.cell 1
  have f1 := hs1.warm 1
  have e2 := hs1.cell 2
  have f2 := hs1.warm 2
  have hx := fun j => ((((hs1.drewN j).put 0 (.int .i64 x.f)).put 1 (.int .i64 x.t)).put 2 (.string (str x.d)))
  have x0 := fun j => (hx j).cell 0
  have x1 := fun j => (hx j).cell 1
  have x2 := fun j => (hx j).cell 2
  have HX := Lib.hid (And.intro x0 (And.intro x1 (x2)))
  clear hx x0 x1 x2
  have HF := Lib.hid (fun j => (below_put (below_put (below_put (below_drewN hb j) (Nat.le_refl _) 0 (.int .i64 x.f)) (Nat.le_refl _) 1 (.int .i64 x.t)) (Nat.le_refl _) 2 (.string (str x.d))))
  clear h hk hc0 hc hg hcur hz hs hm hn hcell hb hs1
  go_enter Try.func37, Try.ntmps37
  go_wp2_with fail
  rw [← hW1]
  clear hW1
  refine (hasK_in p g room l k W1 HR.out HK.out).mono ?_
  rintro e w' ⟨rfl, rfl⟩
  go_wp2_with fail
  go_region_with (refine (HCELL.out _ (HC.out.drewN _)).mono ?_; rintro e w' ⟨rfl, nn, rfl⟩)
  all_goals go_wp2
  all_goals refine bodyPost_ret (v := .tuple #[(.agg #[(.int .i64 x.f), (.int .i64 x.t), (.string (str x.d))]), .bool true]) ?_ rfl ⟨rfl, HF.out _⟩
  all_goals simp [results, Try.results37, go_sem, HX.out]
end Go.Proofs.Ytkfbljbhdjnggaa
