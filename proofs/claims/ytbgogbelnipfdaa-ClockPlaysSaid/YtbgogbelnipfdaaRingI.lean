/- Package ring: a Ring[int] in memory, and what its methods answer and leave. -/
import Derived.Test.YtbgogbelnipfdaaTwo
import Derived.Test.YtbgogbelnipfdaaRow
import Derived.Laws.MakeOwn
import Derived.Laws.CopyRow
import Derived.BigQuiet
import Derived.Deep.RegionHeld3
import Derived.BigRegion
namespace Go.Proofs.Ytbgogbelnipfdaa
open Go Go.RowKit
set_option maxRecDepth 100000
set_option maxHeartbeats 1000000
set_option linter.unusedSimpArgs false

/-- At p lies a ring of so much room, whose n cells lie at g and begin at first: it holds l. -/
structure RingCI (w : World) (p g room n first : Nat) (l : List Int) : Prop where
  sits : Sits w p 54 #[.int .i64 room, .slice (some ⟨g, 0, none⟩) n n, .int .i64 first, .int .i64 l.length]
  first_lt : first < n
  n_le : n ≤ room
  len_le : l.length ≤ n
  small : room ≤ 100000
  cells : ∃ cur : Array Value, Sits w g 3 cur ∧ cur.size = n ∧ ∀ i (h : i < l.length), cur[(first + i) % n]? = some (Value.int .i64 (l[i]))
/-- At p lies a ring of so much room that holds l; g: where its cells lie, or p if it has none. -/
def RingI (w : World) (p g room : Nat) (l : List Int) : Prop :=
  (l = [] ∧ g = p ∧ room ≤ 100000 ∧ Sits w p 54 #[.int .i64 room, .slice none 0 0, .int .i64 0, .int .i64 0]) ∨ ∃ n first, RingCI w p g room n first l

section
variable {w w' : World} {p g room n first : Nat} {l : List Int}
theorem RingCI.ne (h : RingCI w p g room n first l) : g ≠ p := by
  obtain ⟨cur, hc, _⟩ := h.cells
  exact hc.apart h.sits (by decide)
theorem RingCI.keep (h : RingCI w p g room n first l) (hk : ∀ b t cs, b = p ∨ b = g → Sits w b t cs → Sits w' b t cs) : RingCI w' p g room n first l := by
  obtain ⟨cur, hc, h1, h2⟩ := h.cells
  exact ⟨hk _ _ _ (.inl rfl) h.sits, h.first_lt, h.n_le, h.len_le, h.small, cur, hk _ _ _ (.inr rfl) hc, h1, h2⟩
theorem RingI.keep (h : RingI w p g room l) (hk : ∀ b t cs, b = p ∨ b = g → Sits w b t cs → Sits w' b t cs) : RingI w' p g room l := by
  rcases h with ⟨h1, h2, h3, h4⟩ | ⟨n, f, h⟩
  · exact .inl ⟨h1, h2, h3, hk _ _ _ (.inl rfl) h4⟩
  · exact .inr ⟨n, f, h.keep hk⟩
theorem RingI.below (h : RingI w p g room l) (hb : Below w.heap.size w w') : RingI w' p g room l := h.keep fun _ _ _ _ hs => hs.below' hb
theorem RingCI.below (h : RingCI w p g room n first l) (hb : Below w.heap.size w w') : RingCI w' p g room n first l := h.keep fun _ _ _ _ hs => hs.below' hb
theorem RingI.drewN (h : RingI w p g room l) (k : Nat) : RingI (w.drewN k) p g room l := h.keep fun _ _ _ _ hs => hs
theorem RingCI.drewN (h : RingCI w p g room n first l) (k : Nat) : RingCI (w.drewN k) p g room n first l := h.keep fun _ _ _ _ hs => hs
theorem RingI.away {q : Nat} (h : RingI w p g room l) (hp : p ≠ q) (hg : g ≠ q) (i : Nat) (u : Value) : RingI (w.setCell ⟨q, i, none⟩ u) p g room l :=
  h.keep fun b t cs hb hs => hs.away (p := ⟨q, i, none⟩) (by rcases hb with rfl | rfl <;> assumption) u
theorem RingI.head (h : RingI w p g room l) : room ≤ 100000 ∧ l.length ≤ room ∧ ∃ sv first : Value, Sits w p 54 #[.int .i64 room, sv, first, .int .i64 l.length] := by
  rcases h with ⟨rfl, h2, h3, h4⟩ | ⟨n, f, h⟩
  · exact ⟨h3, by simp, _, _, h4⟩
  · exact ⟨h.small, Nat.le_trans h.len_le h.n_le, _, _, h.sits⟩
theorem RingI.lt (h : RingI w p g room l) : p < w.heap.size ∧ g < w.heap.size := by
  rcases h with ⟨rfl, h2, h3, h4⟩ | ⟨n, f, h⟩
  · exact ⟨h4.lt, h2 ▸ h4.lt⟩
  · obtain ⟨cur, hc, _⟩ := h.cells
    exact ⟨h.sits.lt, hc.lt⟩
theorem RingI.full (h : RingI w p g room l) (hl : 0 < l.length) : ∃ n first, RingCI w p g room n first l := by
  rcases h with ⟨rfl, h2, h3, h4⟩ | h
  · simp at hl
  · exact h
theorem RingI.apart {p' g' room' : Nat} {l' : List Int} (h : RingI w p g room l) (h' : RingI w p' g' room' l') (hp : p ≠ p') : p ≠ g' := by
  rcases h' with ⟨_, rfl, _, _⟩ | ⟨n', f', h'⟩
  · exact hp
  · obtain ⟨_, _, _, _, hs⟩ := h.head
    obtain ⟨cur, hc, _⟩ := h'.cells
    exact hs.apart hc (by decide)
/-- Another ring turns: this one stays. -/
theorem RingI.two {p' g' room' : Nat} {l' : List Int} (h : RingI w p g room l) (h' : RingI w p' g' room' l') (ho : Two p' g' w w') (hp : p ≠ p') (hg : g ≠ g') : RingI w' p g room l := by
  have h1 := h.apart h' hp
  have h2 := h'.apart h (Ne.symm hp)
  refine h.keep fun b t cs hb hs => hs.two ho ?_ ?_
  · rcases hb with rfl | rfl
    · exact hp
    · exact Ne.symm h2
  · rcases hb with rfl | rfl
    · exact h1
    · exact hg
end

theorem RingI.intro {w : World} {p g room n first : Nat} {l : List Int} (h : RingCI w p g room n first l) : RingI w p g room l := .inr ⟨_, _, h⟩
theorem lenI_any (p g room : Nat) (l : List Int) (w : World) (h : RingI w p g room l) :
    Calls Try.prog 30 #[.pointer (some ⟨p, 0, none⟩)] w fun e w' => e = .returned (.int .i64 l.length) ∧ w = w' := by
  obtain ⟨h1, h2, sv, f, hs⟩ := h.head
  have c3 := hs.cell 3
  clear hs h h1 h2
  go_enter Try.func30, Try.ntmps30
  go_wp2
  go_ret
  exact ⟨rfl, rfl⟩
theorem lenI_nil (w : World) : Calls Try.prog 30 #[.pointer none] w fun e w' => e = .returned (.int .i64 0) ∧ w = w' := by
  go_enter Try.func30, Try.ntmps30
  go_wp2
  go_ret
  exact ⟨rfl, rfl⟩
theorem roomI_any (p g room : Nat) (l : List Int) (w : World) (h : RingI w p g room l) :
    Calls Try.prog 25 #[.pointer (some ⟨p, 0, none⟩)] w fun e w' => e = .returned (.int .i64 (room - l.length)) ∧ ∃ n, w' = w.drewN n := by
  obtain ⟨h1, h2, sv, f, hs⟩ := h.head
  have c0 := hs.cell 0
  have c3 := hs.cell 3
  have hr : IntKind.i64.wrap ((room : Int) - (l.length : Int)) = (room : Int) - (l.length : Int) := IntWalk.i64_in _ (by omega)
  clear hs h h1 h2
  go_enter Try.func25, Try.ntmps25
  go_wp2
  go_quiet (fail)
  go_wp2
  go_ret
  exact ⟨rfl, _, rfl⟩
theorem roomI_nil (w : World) : Calls Try.prog 25 #[.pointer none] w fun e w' => e = .returned (.int .i64 0) ∧ w = w' := by
  go_enter Try.func25, Try.ntmps25
  go_wp2
  go_ret
  exact ⟨rfl, rfl⟩
theorem hasI_in (p g room : Nat) (l : List Int) (k : Nat) (w : World) (h : RingI w p g room l) (hk : k < l.length) :
    Calls Try.prog 33 #[.pointer (some ⟨p, 0, none⟩), .int .i64 k] w fun e w' => e = .returned (.bool true) ∧ w = w' := by
  have HR := Lib.hid h
  have d1 : decide ((0 : Int) ≤ (k : Int)) = true := by simp
  have d2 : decide (k < l.length) = true := by simp [hk]
  clear h hk
  go_enter Try.func33, Try.ntmps33
  go_wp2_with fail
  refine (lenI_any p g room l w HR.out).mono ?_
  rintro e w' ⟨rfl, rfl⟩
  go_wp2
  go_ret
  exact ⟨rfl, rfl⟩
theorem hasI_out (p g room : Nat) (l : List Int) (k : Int) (w : World) (h : RingI w p g room l) (hk : k < 0 ∨ (l.length : Int) ≤ k) :
    Calls Try.prog 33 #[.pointer (some ⟨p, 0, none⟩), .int .i64 k] w fun e w' => e = .returned (.bool false) ∧ w = w' := by
  have HR := Lib.hid h
  clear h
  by_cases h0 : k < 0
  · have d1 : decide ((0 : Int) ≤ k) = false := by simp; omega
    clear hk
    go_enter Try.func33, Try.ntmps33
    go_wp2
    go_ret
    exact ⟨rfl, rfl⟩
  · have d1 : decide ((0 : Int) ≤ k) = true := by simp; omega
    have d2 : decide (k < (l.length : Int)) = false := by simp; omega
    clear hk h0
    go_enter Try.func33, Try.ntmps33
    go_wp2_with fail
    refine (lenI_any p g room l w HR.out).mono ?_
    rintro e w' ⟨rfl, rfl⟩
    go_wp2
    go_ret
    exact ⟨rfl, rfl⟩
theorem hasI_nil (k : Int) (w : World) : Calls Try.prog 33 #[.pointer none, .int .i64 k] w fun e w' => e = .returned (.bool false) ∧ w = w' := by
  by_cases h0 : k < 0
  · have d1 : decide ((0 : Int) ≤ k) = false := by simp; omega
    go_enter Try.func33, Try.ntmps33
    go_wp2
    go_ret
    exact ⟨rfl, rfl⟩
  · have d1 : decide ((0 : Int) ≤ k) = true := by simp; omega
    have d2 : decide (k < (0 : Int)) = false := by simp; omega
    clear h0
    go_enter Try.func33, Try.ntmps33
    go_wp2_with fail
    refine (lenI_nil w).mono ?_
    rintro e w' ⟨rfl, rfl⟩
    go_wp2
    go_ret
    exact ⟨rfl, rfl⟩
theorem cellI_at (p g n first : Nat) (k : Nat) (rv lv : Value) (w : World) (hs : Sits w p 54 #[rv, .slice (some ⟨g, 0, none⟩) n n, .int .i64 first, lv]) (h1 : first < n) (h2 : n ≤ 100000) (hk : k ≤ 100000) :
    Calls Try.prog 29 #[.pointer (some ⟨p, 0, none⟩), .int .i64 k] w fun e w' => e = .returned (.int .i64 ((first + k) % n : Nat)) ∧ ∃ n, w' = w.drewN n := by
  have c1 := hs.cell 1
  have c2 := hs.cell 2
  have hr : IntKind.i64.wrap ((first : Int) + (k : Int)) = ((first + k : Nat) : Int) := by
    rw [← Int.natCast_add]
    exact IntWalk.i64_in _ (by omega)
  have hz : decide ((n : Int) = 0) = false := by simp; omega
  have hq : ((first + k : Nat) : Int).tmod (n : Int) = ((first + k) % n : Nat) := by
    rw [Int.tmod_eq_emod_of_nonneg (by omega)]
    omega
  have hl : ((first + k) % n) < n := Nat.mod_lt _ (by omega)
  have hrr : IntKind.i64.wrap (((first + k) % n : Nat) : Int) = (((first + k) % n : Nat) : Int) := IntWalk.i64_in _ (by omega)
  have hn : (n : Int) ≤ 100000 := by omega
  clear hs h2 hk
  go_enter Try.func29, Try.ntmps29
  go_wp2
  go_quiet (fail)
  go_wp2
  go_ret
  exact ⟨by simp, _, rfl⟩
theorem cellI_any (p g room n first : Nat) (l : List Int) (k : Nat) (w : World) (h : RingCI w p g room n first l) (hk : k ≤ 100000) :
    Calls Try.prog 29 #[.pointer (some ⟨p, 0, none⟩), .int .i64 k] w fun e w' => e = .returned (.int .i64 ((first + k) % n : Nat)) ∧ ∃ n, w' = w.drewN n :=
  cellI_at p g n first k _ _ w h.sits h.first_lt (Nat.le_trans h.n_le h.small) hk
theorem cellqI_any (p g room n first : Nat) (l : List Int) (k m : Nat) (w : World) (h : RingCI w p g room n first l) (hk : k ≤ 100000) (hm : m = (first + k) % n) (j : Nat) :
    Calls Try.prog 29 #[.pointer (some ⟨p, 0, none⟩), .int .i64 k] (w.drewN j) fun e w' => e = .returned (.int .i64 m) ∧ ∃ n, w' = w.drewN n := by
  refine (cellI_any p g room n first l k _ (h.drewN j) hk).mono ?_
  rintro e w' ⟨rfl, i, rfl⟩
  exact ⟨by rw [hm], j + i, World.drewN_drewN w j i⟩
theorem peekI_in (p g room : Nat) (l : List Int) (k : Nat) (w : World) (h : RingI w p g room l) (hk : k < l.length) :
    Calls Try.prog 31 #[.pointer (some ⟨p, 0, none⟩), .int .i64 k] w fun e w' => e = .returned (.tuple #[(Value.int .i64 (l[k])), .bool true]) ∧ ∃ n, w' = w.drewN n := by
  have HR := Lib.hid h
  obtain ⟨n, first, hc⟩ := h.full (by omega)
  have c1 := hc.sits.cell 1
  have hs := hc.small
  have hl := hc.len_le
  have hn := hc.n_le
  have hf := hc.first_lt
  obtain ⟨cur, hg, hz, hcur⟩ := hc.cells
  have cg := hg.cell ((first + k) % n)
  rw [hcur k hk] at cg
  have hlt : ((first + k) % n) < n := Nat.mod_lt _ (by omega)
  generalize l[k] = x at cg ⊢
  obtain ⟨m, hm⟩ : ∃ m, m = (first + k) % n := ⟨_, rfl⟩
  have HC := Lib.hid hc
  have HK := Lib.hid hk
  have HKM : Hid (k ≤ 100000) := Lib.hid (by omega)
  rw [← hm] at cg hlt
  have HM := Lib.hid hm
  have hn2 : (n : Int) ≤ 100000 := by omega
  clear h hc hk hg hcur hz hs hl hf hm hn
  go_enter Try.func31, Try.ntmps31
  go_wp2_with fail
  refine (hasI_in p g room l k w HR.out HK.out).mono ?_
  rintro e w' ⟨rfl, rfl⟩
  go_wp2_with fail
  go_quiet (exact cellqI_any p g room n first l k m w HC.out HKM.out HM.out _)
  go_wp2
  go_ret2
  exact ⟨rfl, _, rfl⟩
theorem peekI_out (p g room : Nat) (l : List Int) (k : Int) (w : World) (h : RingI w p g room l) (hk : k < 0 ∨ (l.length : Int) ≤ k) :
    Calls Try.prog 31 #[.pointer (some ⟨p, 0, none⟩), .int .i64 k] w fun e w' => e = .returned (.tuple #[(Value.int .i64 0), .bool false]) ∧ w = w' := by
  have HR := Lib.hid h
  have HK := Lib.hid hk
  clear h hk
  go_enter Try.func31, Try.ntmps31
  go_wp2_with fail
  refine (hasI_out p g room l k w HR.out HK.out).mono ?_
  rintro e w' ⟨rfl, rfl⟩
  go_wp2
  go_ret2
  exact ⟨rfl, rfl⟩
theorem peekI_nil (k : Int) (w : World) : Calls Try.prog 31 #[.pointer none, .int .i64 k] w fun e w' => e = .returned (.tuple #[(Value.int .i64 0), .bool false]) ∧ w = w' := by
  go_enter Try.func31, Try.ntmps31
  go_wp2_with fail
  refine (hasI_nil k w).mono ?_
  rintro e w' ⟨rfl, rfl⟩
  go_wp2
  go_ret2
  exact ⟨rfl, rfl⟩
theorem RingCI.put {w : World} {p g room n first : Nat} {l : List Int} (h : RingCI w p g room n first l) {k : Nat} (hk : k < l.length) (x : Int) :
    RingCI (w.setCell ⟨g, (first + k) % n, none⟩ (Value.int .i64 x)) p g room n first (l.set k x) := by
  have hne := h.ne
  obtain ⟨cur, hg, hz, hc⟩ := h.cells
  have hf := h.first_lt
  have hl := h.len_le
  refine ⟨by rw [List.length_set]; exact h.sits.away (Ne.symm hne) _, hf, h.n_le, by rw [List.length_set]; exact hl, h.small, _, hg.put _ _, by simp [hz], fun i hi => ?_⟩
  rw [List.length_set] at hi
  rw [Array.getElem?_setIfInBounds, List.getElem_set]
  by_cases e : k = i
  · subst e
    have hlt : (first + k) % n < cur.size := by rw [hz]; exact Nat.mod_lt _ (by omega)
    simp [hlt]
  · have e2 : (first + k) % n ≠ (first + i) % n := by
      intro e3
      have a1 := Nat.div_add_mod (first + k) n
      have a2 := Nat.div_add_mod (first + i) n
      rw [e3] at a1
      have a3 : n * ((first + k) / n) - n * ((first + i) / n) = (first + k) - (first + i) := by omega
      have a4 : n * ((first + i) / n) - n * ((first + k) / n) = (first + i) - (first + k) := by omega
      rw [← Nat.mul_sub] at a3 a4
      rcases Nat.lt_or_ge k i with h1 | h1
      · rcases Nat.eq_zero_or_pos ((first + i) / n - (first + k) / n) with h2 | h2
        · rw [h2] at a4; omega
        · have := Nat.mul_le_mul_left n h2; omega
      · rcases Nat.eq_zero_or_pos ((first + k) / n - (first + i) / n) with h2 | h2
        · rw [h2] at a3; omega
        · have := Nat.mul_le_mul_left n h2; omega
    rw [if_neg e2, if_neg e]
    exact hc i hi
theorem RingCI.leaves {w : World} {p g room n first : Nat} {x : Int} {l : List Int} (h : RingCI w p g room n first (x :: l)) (a b : Nat) :
    RingCI ((((((w.drewN a).setCell ⟨g, first, none⟩ (Value.int .i64 0)).drewN b).setCell ⟨p, 2, none⟩ (.int .i64 ((first + 1) % n : Nat))).setCell ⟨p, 3, none⟩ (.int .i64 l.length))) p g room n ((first + 1) % n) l := by
  have hne := h.ne
  obtain ⟨cur, hg, hz, hc⟩ := h.cells
  have hf := h.first_lt
  have hl := h.len_le
  simp only [List.length_cons] at hl
  have hlt : (first + 1) % n < n := Nat.mod_lt _ (by omega)
  refine ⟨((((h.sits.drewN a).away (p := ⟨g, first, none⟩) (Ne.symm hne) (Value.int .i64 0)).drewN b).put 2 _).put 3 _, hlt, h.n_le, by omega, h.small, _, ((((hg.drewN a).put first (Value.int .i64 0)).drewN b).away (p := ⟨p, 2, none⟩) hne _).away (p := ⟨p, 3, none⟩) hne _, by simp [hz], fun i hi => ?_⟩
  have e1 : ((first + 1) % n + i) % n = (first + (i + 1)) % n := by
    rw [Nat.add_mod, Nat.mod_mod, ← Nat.add_mod]
    congr 1
    omega
  have e2 : first ≠ (first + (i + 1)) % n := by
    intro e3
    rcases Nat.lt_or_ge (first + (i + 1)) n with h1 | h1
    · rw [Nat.mod_eq_of_lt h1] at e3; omega
    · rw [Nat.mod_eq_sub_mod h1, Nat.mod_eq_of_lt (by omega)] at e3; omega
  rw [e1, Array.getElem?_setIfInBounds, if_neg e2, hc (i + 1) (by simpa using hi)]
  rfl
theorem leaveI_any (p g room : Nat) (x : Int) (l : List Int) (w : World) (h : RingI w p g room (x :: l)) :
    Calls Try.prog 32 #[.pointer (some ⟨p, 0, none⟩)] w fun e w' => e = .returned (.tuple #[]) ∧ RingI w' p g room l ∧ Two p g w w' := by
  obtain ⟨n, first, hc⟩ := h.full (by simp)
  have hne := hc.ne
  have hs := hc.small
  have hl := hc.len_le
  have hn := hc.n_le
  have hf := hc.first_lt
  have hk : 0 < (x :: l).length := by simp
  obtain ⟨cur, hg, hz, hcur⟩ := hc.cells
  have cg := hg.cell first
  have fg := hg.warm first
  have e0 : (first + 0) % n = first := Nat.mod_eq_of_lt (by omega)
  have e1 := hcur 0 hk
  rw [e0] at e1
  rw [e1] at cg
  simp only [List.getElem_cons_zero] at cg
  have c1 := hc.sits.cell 1
  have c2 := hc.sits.cell 2
  have c3 := hc.sits.cell 3
  have f2 := hc.sits.warm 2
  have f3 := hc.sits.warm 3
  have hlen : ((x :: l).length : Int) = (l.length : Int) + 1 := by simp
  rw [hlen] at c3
  have hl2 : (l.length : Int) ≤ 100000 := by simp only [List.length_cons] at hl; omega
  have hone : Two p g w w := Two.refl p g w
  have HF := Lib.hid (fun a b => (RingI.intro (hc.leaves a b) : RingI _ p g room l))
  have HT := Lib.hid (fun a b => ((((((Two.refl p g w).drewN a).store2 first (Value.int .i64 0)).drewN b).store1 2 (.int .i64 ((first + 1) % n : Nat))).store1 3 (.int .i64 l.length)))
  have HS := Lib.hid (hc.sits.away (p := ⟨g, first, none⟩) (Ne.symm hne) (Value.int .i64 0)).drew
  have HN : Hid (n ≤ 100000) := Lib.hid (by omega)
  have hfi : (first : Int) < (n : Int) := by omega
  have HFN := Lib.hid hf
  have hn2 : (n : Int) ≤ 100000 := by omega
  clear h hc hg hcur hz hs hl hn e0 e1 hk hlen hone
  go_enter Try.func32, Try.ntmps32
  go_wp2
  go_region
  all_goals go_wp2_with fail
  refine (cellI_at p g n first 1 _ _ _ HS.out HFN.out HN.out (by omega)).mono ?_
  rintro e w' ⟨rfl, k, rfl⟩
  go_wp2
  go_end0
  have e2 : (((first : Int) + 1) % (n : Int)) = (((first + 1) % n : Nat) : Int) := by simp
  rw [e2]
  exact ⟨rfl, HF.out 0 (1 + k), HT.out 0 (1 + k)⟩
end Go.Proofs.Ytbgogbelnipfdaa
