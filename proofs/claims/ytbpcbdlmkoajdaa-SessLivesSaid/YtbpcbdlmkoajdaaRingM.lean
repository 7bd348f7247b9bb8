/- Package ring: a ring of elements of several cells in memory, and what its methods answer and leave. -/
import Derived.Test.YtbpcbdlmkoajdaaTwo
import Derived.Test.YtbpcbdlmkoajdaaRow
import Derived.Laws.MakeOwn
import Derived.Laws.CopyRow
import Derived.BigQuiet
import Derived.Deep.RegionHeld3
import Derived.BigRegion
import Derived.Test.YtbpcbdlmkoajdaaSesT
namespace Go.Proofs.Ytbpcbdlmkoajdaa
open Go Go.RowKit
set_option maxRecDepth 100000
set_option maxHeartbeats 1000000
set_option linter.unusedSimpArgs false

theorem wide_ne {W a b i j : Nat} (hi : i < W) (hj : j < W) (h : a * W + i = b * W + j) : a = b ∧ i = j := by
  have h1 : (a * W + i) / W = a := by rw [Nat.mul_comm, Nat.mul_add_div (by omega), Nat.div_eq_of_lt hi, Nat.add_zero]
  have h2 : (b * W + j) / W = b := by rw [Nat.mul_comm, Nat.mul_add_div (by omega), Nat.div_eq_of_lt hj, Nat.add_zero]
  have h3 : a = b := by rw [← h1, ← h2, h]
  subst h3
  exact ⟨rfl, by omega⟩
theorem Two.put_new {p g : Nat} {a w : World} {q : Nat} (h : Two p g a w) (hq : a.heap.size ≤ q) (i : Nat) (u : Value) : Two p g a (w.setCell ⟨q, i, none⟩ u) :=
  ⟨h.os, h.tape, h.output, by simpa [World.setCell] using h.size, fun k hk hp hg => (Below.heap_setCell w ⟨q, i, none⟩ u k (show k ≠ q by omega)).trans (h.block k hk hp hg)⟩
theorem round_ne {n first a b : Nat} (hf : first < n) (ha : a < n) (hb : b < n) (h : a ≠ b) : (first + a) % n ≠ (first + b) % n := by
  intro e
  rcases Nat.lt_or_ge (first + a) n with h1 | h1 <;> rcases Nat.lt_or_ge (first + b) n with h2 | h2
  · rw [Nat.mod_eq_of_lt h1, Nat.mod_eq_of_lt h2] at e; omega
  · rw [Nat.mod_eq_of_lt h1, Nat.mod_eq_sub_mod h2, Nat.mod_eq_of_lt (by omega)] at e; omega
  · rw [Nat.mod_eq_of_lt h2, Nat.mod_eq_sub_mod h1, Nat.mod_eq_of_lt (by omega)] at e; omega
  · rw [Nat.mod_eq_sub_mod h1, Nat.mod_eq_sub_mod h2, Nat.mod_eq_of_lt (by omega), Nat.mod_eq_of_lt (by omega)] at e; omega
/-- At p lies a ring of so much room, whose n cells lie at g and begin at first: it holds l. -/
structure RingCM (w : World) (p g room n first : Nat) (l : List Msg) : Prop where
  sits : Sits w p 62 #[.int .i64 room, .slice (some ⟨g, 0, none⟩) n n, .int .i64 first, .int .i64 l.length]
  first_lt : first < n
  n_le : n ≤ room
  len_le : l.length ≤ n
  small : room ≤ 100000
  cells : ∃ cur : Array Value, Sits w g 46 cur ∧ cur.size = n * 2 ∧ ∀ i (h : i < l.length), cur[((first + i) % n) * 2]? = some (.string (str l[i].d)) ∧ cur[((first + i) % n) * 2 + 1]? = some (.int .i64 (l[i].l : Int))
/-- At p lies a ring of so much room that holds l; g: where its cells lie, or p if it has none. -/
def RingM (w : World) (p g room : Nat) (l : List Msg) : Prop :=
  (l = [] ∧ g = p ∧ room ≤ 100000 ∧ Sits w p 62 #[.int .i64 room, .slice none 0 0, .int .i64 0, .int .i64 0]) ∨ ∃ n first, RingCM w p g room n first l

section
variable {w w' : World} {p g room n first : Nat} {l : List Msg}
theorem RingCM.ne (h : RingCM w p g room n first l) : g ≠ p := by
  obtain ⟨cur, hc, _⟩ := h.cells
  exact hc.apart h.sits (by decide)
theorem RingCM.keep (h : RingCM w p g room n first l) (hk : ∀ b t cs, b = p ∨ b = g → Sits w b t cs → Sits w' b t cs) : RingCM w' p g room n first l := by
  obtain ⟨cur, hc, h1, h2⟩ := h.cells
  exact ⟨hk _ _ _ (.inl rfl) h.sits, h.first_lt, h.n_le, h.len_le, h.small, cur, hk _ _ _ (.inr rfl) hc, h1, h2⟩
theorem RingM.keep (h : RingM w p g room l) (hk : ∀ b t cs, b = p ∨ b = g → Sits w b t cs → Sits w' b t cs) : RingM w' p g room l := by
  rcases h with ⟨h1, h2, h3, h4⟩ | ⟨n, f, h⟩
  · exact .inl ⟨h1, h2, h3, hk _ _ _ (.inl rfl) h4⟩
  · exact .inr ⟨n, f, h.keep hk⟩
theorem RingM.below (h : RingM w p g room l) (hb : Below w.heap.size w w') : RingM w' p g room l := h.keep fun _ _ _ _ hs => hs.below' hb
theorem RingCM.below (h : RingCM w p g room n first l) (hb : Below w.heap.size w w') : RingCM w' p g room n first l := h.keep fun _ _ _ _ hs => hs.below' hb
theorem RingM.drewN (h : RingM w p g room l) (k : Nat) : RingM (w.drewN k) p g room l := h.keep fun _ _ _ _ hs => hs
theorem RingCM.drewN (h : RingCM w p g room n first l) (k : Nat) : RingCM (w.drewN k) p g room n first l := h.keep fun _ _ _ _ hs => hs
theorem RingCM.away {q : Nat} (h : RingCM w p g room n first l) (hp : p ≠ q) (hg : g ≠ q) (i : Nat) (u : Value) : RingCM (w.setCell ⟨q, i, none⟩ u) p g room n first l :=
  h.keep fun b t cs hb hs => hs.away (p := ⟨q, i, none⟩) (by rcases hb with rfl | rfl <;> assumption) u
theorem RingM.away {q : Nat} (h : RingM w p g room l) (hp : p ≠ q) (hg : g ≠ q) (i : Nat) (u : Value) : RingM (w.setCell ⟨q, i, none⟩ u) p g room l :=
  h.keep fun b t cs hb hs => hs.away (p := ⟨q, i, none⟩) (by rcases hb with rfl | rfl <;> assumption) u
theorem RingM.head (h : RingM w p g room l) : room ≤ 100000 ∧ l.length ≤ room ∧ ∃ sv first : Value, Sits w p 62 #[.int .i64 room, sv, first, .int .i64 l.length] := by
  rcases h with ⟨rfl, h2, h3, h4⟩ | ⟨n, f, h⟩
  · exact ⟨h3, by simp, _, _, h4⟩
  · exact ⟨h.small, Nat.le_trans h.len_le h.n_le, _, _, h.sits⟩
theorem RingCM.lt (h : RingCM w p g room n first l) : p < w.heap.size ∧ g < w.heap.size := by
  obtain ⟨cur, hc, _⟩ := h.cells
  exact ⟨h.sits.lt, hc.lt⟩
theorem RingM.lt (h : RingM w p g room l) : p < w.heap.size ∧ g < w.heap.size := by
  rcases h with ⟨rfl, h2, h3, h4⟩ | ⟨n, f, h⟩
  · exact ⟨h4.lt, h2 ▸ h4.lt⟩
  · exact h.lt
theorem RingM.full (h : RingM w p g room l) (hl : 0 < l.length) : ∃ n first, RingCM w p g room n first l := by
  rcases h with ⟨rfl, h2, h3, h4⟩ | h
  · simp at hl
  · exact h
end
theorem RingM.intro {w : World} {p g room n first : Nat} {l : List Msg} (h : RingCM w p g room n first l) : RingM w p g room l := .inr ⟨_, _, h⟩
theorem lenM_any (p g room : Nat) (l : List Msg) (w : World) (h : RingM w p g room l) :
    Calls Try.prog 27 #[.pointer (some ⟨p, 0, none⟩)] w fun e w' => e = .returned (.int .i64 l.length) ∧ w = w' := by
  obtain ⟨h1, h2, sv, f, hs⟩ := h.head
  have c3 := hs.cell 3
  clear hs h h1 h2
  go_enter Try.func27, Try.ntmps27
  go_wp2
  go_ret
  exact ⟨rfl, rfl⟩
theorem lenM_nil (w : World) : Calls Try.prog 27 #[.pointer none] w fun e w' => e = .returned (.int .i64 0) ∧ w = w' := by
  go_enter Try.func27, Try.ntmps27
  go_wp2
  go_ret
  exact ⟨rfl, rfl⟩
theorem roomM_any (p g room : Nat) (l : List Msg) (w : World) (h : RingM w p g room l) :
    Calls Try.prog 30 #[.pointer (some ⟨p, 0, none⟩)] w fun e w' => e = .returned (.int .i64 (room - l.length)) ∧ ∃ n, w' = w.drewN n := by
  obtain ⟨h1, h2, sv, f, hs⟩ := h.head
  have c0 := hs.cell 0
  have c3 := hs.cell 3
  have hr : IntKind.i64.wrap ((room : Int) - (l.length : Int)) = (room : Int) - (l.length : Int) := IntWalk.i64_in _ (by omega)
  clear hs h h1 h2
  go_enter Try.func30, Try.ntmps30
  go_wp2
  go_quiet (fail)
  go_wp2
  go_ret
  exact ⟨rfl, _, rfl⟩
theorem hasM_in (p g room : Nat) (l : List Msg) (k : Nat) (w : World) (h : RingM w p g room l) (hk : k < l.length) :
    Calls Try.prog 33 #[.pointer (some ⟨p, 0, none⟩), .int .i64 k] w fun e w' => e = .returned (.bool true) ∧ w = w' := by
  have HR := Lib.hid h
  have d1 : decide ((0 : Int) ≤ (k : Int)) = true := by simp
  have d2 : decide (k < l.length) = true := by simp [hk]
  clear h hk
  go_enter Try.func33, Try.ntmps33
  go_wp2_with fail
  refine (lenM_any p g room l w HR.out).mono ?_
  rintro e w' ⟨rfl, rfl⟩
  go_wp2
  go_ret
  exact ⟨rfl, rfl⟩
theorem hasM_out (p g room : Nat) (l : List Msg) (k : Int) (w : World) (h : RingM w p g room l) (hk : k < 0 ∨ (l.length : Int) ≤ k) :
    Calls Try.prog 33 #[.pointer (some ⟨p, 0, none⟩), .int .i64 k] w fun e w' => e = .returned (.bool false) ∧ w = w' := by
  have HR := Lib.hid h
  clear h
  by_cases h0 : k < 0
  · have d1 : decide ((0 : Int) ≤ k) = false := by simp; omega
    clear hk
    go_enter Try.func33, Try.ntmps33
    go_wp2
    go_ret
    exact ⟨rfl, rfl⟩
  · have d1 : decide ((0 : Int) ≤ k) = true := by simp; omega
    have d2 : decide (k < (l.length : Int)) = false := by simp; omega
    clear hk h0
    go_enter Try.func33, Try.ntmps33
    go_wp2_with fail
    refine (lenM_any p g room l w HR.out).mono ?_
    rintro e w' ⟨rfl, rfl⟩
    go_wp2
    go_ret
    exact ⟨rfl, rfl⟩
theorem cellM_at (p g n first : Nat) (k : Nat) (rv lv : Value) (w : World) (hs : Sits w p 62 #[rv, .slice (some ⟨g, 0, none⟩) n n, .int .i64 first, lv]) (h1 : first < n) (h2 : n ≤ 100000) (hk : k ≤ 100000) :
    Calls Try.prog 32 #[.pointer (some ⟨p, 0, none⟩), .int .i64 k] w fun e w' => e = .returned (.int .i64 ((first + k) % n : Nat)) ∧ ∃ n, w' = w.drewN n := by
  have c1 := hs.cell 1
  have c2 := hs.cell 2
  have hr : IntKind.i64.wrap ((first : Int) + (k : Int)) = ((first + k : Nat) : Int) := by
    rw [← Int.natCast_add]
    exact IntWalk.i64_in _ (by omega)
  have hz : decide ((n : Int) = 0) = false := by simp; omega
  have hq : ((first + k : Nat) : Int).tmod (n : Int) = ((first + k) % n : Nat) := by
    rw [Int.tmod_eq_emod_of_nonneg (by omega)]
    omega
  have hl : ((first + k) % n) < n := Nat.mod_lt _ (by omega)
  have hrr : IntKind.i64.wrap (((first + k) % n : Nat) : Int) = (((first + k) % n : Nat) : Int) := IntWalk.i64_in _ (by omega)
  have hn : (n : Int) ≤ 100000 := by omega
  clear hs h2 hk
  go_enter Try.func32, Try.ntmps32
  go_wp2
  go_quiet (fail)
  go_wp2
  go_ret
  exact ⟨by simp, _, rfl⟩
theorem cellM_any (p g room n first : Nat) (l : List Msg) (k : Nat) (w : World) (h : RingCM w p g room n first l) (hk : k ≤ 100000) :
    Calls Try.prog 32 #[.pointer (some ⟨p, 0, none⟩), .int .i64 k] w fun e w' => e = .returned (.int .i64 ((first + k) % n : Nat)) ∧ ∃ n, w' = w.drewN n :=
  cellM_at p g n first k _ _ w h.sits h.first_lt (Nat.le_trans h.n_le h.small) hk
end Go.Proofs.Ytbpcbdlmkoajdaa
