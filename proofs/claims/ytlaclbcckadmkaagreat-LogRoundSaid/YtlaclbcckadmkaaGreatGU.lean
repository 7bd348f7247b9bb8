/- Package ring: a Ring[string] in memory, and what its methods answer and leave. Package ring: what Pop, Drop, Clear, List of a Ring[string] answer and leave. -/
import Derived.Test.YtlaclbcckadmkaaGreatGA
import Derived.Laws.MakeOwn
import Derived.Laws.CopyRow
import Derived.BigQuiet
import Derived.Deep.RegionHeld3
import Derived.BigRegion
import Derived.Test.YtlaclbcckadmkaaGreatGG
namespace Go.Proofs.YtlaclbcckadmkaaGreat
open Go Go.RowKit
set_option maxRecDepth 100000
set_option maxHeartbeats 1000000
set_option linter.unusedSimpArgs false

/-- At p lies a ring of so much room, whose n cells lie at g and begin at first: it holds l. -/
structure RingCS (w : World) (p g room n first : Nat) (l : List (List UInt8)) : Prop where
  sits : Sits w p 116 #[.int .i64 room, .slice (some ⟨g, 0, none⟩) n n, .int .i64 first, .int .i64 l.length]
  first_lt : first < n
  n_le : n ≤ room
  len_le : l.length ≤ n
  small : room ≤ 100000
  cells : ∃ cur : Array Value, Sits w g 9 cur ∧ cur.size = n ∧ ∀ i (h : i < l.length), cur[(first + i) % n]? = some (Value.string (str (l[i])))
/-- At p lies a ring of so much room that holds l; g: where its cells lie, or p if it has none. -/
def RingS (w : World) (p g room : Nat) (l : List (List UInt8)) : Prop :=
  (l = [] ∧ g = p ∧ room ≤ 100000 ∧ Sits w p 116 #[.int .i64 room, .slice none 0 0, .int .i64 0, .int .i64 0]) ∨ ∃ n first, RingCS w p g room n first l

section
variable {w w' : World} {p g room n first : Nat} {l : List (List UInt8)}
theorem RingCS.ne (h : RingCS w p g room n first l) : g ≠ p := by
  obtain ⟨cur, hc, _⟩ := h.cells
  exact hc.apart h.sits (by decide)
theorem RingCS.keep (h : RingCS w p g room n first l) (hk : ∀ b t cs, b = p ∨ b = g → Sits w b t cs → Sits w' b t cs) : RingCS w' p g room n first l := by
  obtain ⟨cur, hc, h1, h2⟩ := h.cells
  exact ⟨hk _ _ _ (.inl rfl) h.sits, h.first_lt, h.n_le, h.len_le, h.small, cur, hk _ _ _ (.inr rfl) hc, h1, h2⟩
theorem RingS.keep (h : RingS w p g room l) (hk : ∀ b t cs, b = p ∨ b = g → Sits w b t cs → Sits w' b t cs) : RingS w' p g room l := by
  rcases h with ⟨h1, h2, h3, h4⟩ | ⟨n, f, h⟩
  · exact .inl ⟨h1, h2, h3, hk _ _ _ (.inl rfl) h4⟩
  · exact .inr ⟨n, f, h.keep hk⟩
theorem RingS.below (h : RingS w p g room l) (hb : Below w.heap.size w w') : RingS w' p g room l := h.keep fun _ _ _ _ hs => hs.below' hb
theorem RingCS.below (h : RingCS w p g room n first l) (hb : Below w.heap.size w w') : RingCS w' p g room n first l := h.keep fun _ _ _ _ hs => hs.below' hb
theorem RingS.drewN (h : RingS w p g room l) (k : Nat) : RingS (w.drewN k) p g room l := h.keep fun _ _ _ _ hs => hs
theorem RingCS.drewN (h : RingCS w p g room n first l) (k : Nat) : RingCS (w.drewN k) p g room n first l := h.keep fun _ _ _ _ hs => hs
theorem RingS.away {q : Nat} (h : RingS w p g room l) (hp : p ≠ q) (hg : g ≠ q) (i : Nat) (u : Value) : RingS (w.setCell ⟨q, i, none⟩ u) p g room l :=
  h.keep fun b t cs hb hs => hs.away (p := ⟨q, i, none⟩) (by rcases hb with rfl | rfl <;> assumption) u
theorem RingS.head (h : RingS w p g room l) : room ≤ 100000 ∧ l.length ≤ room ∧ ∃ sv first : Value, Sits w p 116 #[.int .i64 room, sv, first, .int .i64 l.length] := by
  rcases h with ⟨rfl, h2, h3, h4⟩ | ⟨n, f, h⟩
  · exact ⟨h3, by simp, _, _, h4⟩
  · exact ⟨h.small, Nat.le_trans h.len_le h.n_le, _, _, h.sits⟩
theorem RingS.lt (h : RingS w p g room l) : p < w.heap.size ∧ g < w.heap.size := by
  rcases h with ⟨rfl, h2, h3, h4⟩ | ⟨n, f, h⟩
  · exact ⟨h4.lt, h2 ▸ h4.lt⟩
  · obtain ⟨cur, hc, _⟩ := h.cells
    exact ⟨h.sits.lt, hc.lt⟩
theorem RingS.full (h : RingS w p g room l) (hl : 0 < l.length) : ∃ n first, RingCS w p g room n first l := by
  rcases h with ⟨rfl, h2, h3, h4⟩ | h
  · simp at hl
  · exact h
theorem RingS.apart {p' g' room' : Nat} {l' : List (List UInt8)} (h : RingS w p g room l) (h' : RingS w p' g' room' l') (hp : p ≠ p') : p ≠ g' := by
  rcases h' with ⟨_, rfl, _, _⟩ | ⟨n', f', h'⟩
  · exact hp
  · obtain ⟨_, _, _, _, hs⟩ := h.head
    obtain ⟨cur, hc, _⟩ := h'.cells
    exact hs.apart hc (by decide)
/-- Another ring turns: this one stays. -/
theorem RingS.two {p' g' room' : Nat} {l' : List (List UInt8)} (h : RingS w p g room l) (h' : RingS w p' g' room' l') (ho : Two p' g' w w') (hp : p ≠ p') (hg : g ≠ g') : RingS w' p g room l := by
  have h1 := h.apart h' hp
  have h2 := h'.apart h (Ne.symm hp)
  refine h.keep fun b t cs hb hs => hs.two ho ?_ ?_
  · rcases hb with rfl | rfl
    · exact hp
    · exact Ne.symm h2
  · rcases hb with rfl | rfl
    · exact h1
    · exact hg
end

theorem RingS.intro {w : World} {p g room n first : Nat} {l : List (List UInt8)} (h : RingCS w p g room n first l) : RingS w p g room l := .inr ⟨_, _, h⟩
theorem lenS_any (p g room : Nat) (l : List (List UInt8)) (w : World) (h : RingS w p g room l) :
    Calls Tryz.prog 50 #[.pointer (some ⟨p, 0, none⟩)] w fun e w' => e = .returned (.int .i64 l.length) ∧ w = w' := by
  obtain ⟨h1, h2, sv, f, hs⟩ := h.head
  have c3 := hs.cell 3
  clear hs h h1 h2
  go_enter Tryz.func50, Tryz.ntmps50
  go_wp2
  go_ret
  exact ⟨rfl, rfl⟩
theorem lenS_nil (w : World) : Calls Tryz.prog 50 #[.pointer none] w fun e w' => e = .returned (.int .i64 0) ∧ w = w' := by
  go_enter Tryz.func50, Tryz.ntmps50
  go_wp2
  go_ret
  exact ⟨rfl, rfl⟩
theorem roomS_any (p g room : Nat) (l : List (List UInt8)) (w : World) (h : RingS w p g room l) :
    Calls Tryz.prog 88 #[.pointer (some ⟨p, 0, none⟩)] w fun e w' => e = .returned (.int .i64 (room - l.length)) ∧ ∃ n, w' = w.drewN n := by
  obtain ⟨h1, h2, sv, f, hs⟩ := h.head
  have c0 := hs.cell 0
  have c3 := hs.cell 3
  have hr : IntKind.i64.wrap ((room : Int) - (l.length : Int)) = (room : Int) - (l.length : Int) := IntWalk.i64_in _ (by omega)
  clear hs h h1 h2
  go_enter Tryz.func88, Tryz.ntmps88
  go_wp2
  go_quiet (fail)
  go_wp2
  go_ret
  exact ⟨rfl, _, rfl⟩
theorem roomS_nil (w : World) : Calls Tryz.prog 88 #[.pointer none] w fun e w' => e = .returned (.int .i64 0) ∧ w = w' := by
  go_enter Tryz.func88, Tryz.ntmps88
  go_wp2
  go_ret
  exact ⟨rfl, rfl⟩
theorem hasS_in (p g room : Nat) (l : List (List UInt8)) (k : Nat) (w : World) (h : RingS w p g room l) (hk : k < l.length) :
    Calls Tryz.prog 116 #[.pointer (some ⟨p, 0, none⟩), .int .i64 k] w fun e w' => e = .returned (.bool true) ∧ w = w' := by
  have HR := Lib.hid h
  have d1 : decide ((0 : Int) ≤ (k : Int)) = true := by simp
  have d2 : decide (k < l.length) = true := by simp [hk]
  clear h hk
  go_enter Tryz.func116, Tryz.ntmps116
  go_wp2_with fail
  refine (lenS_any p g room l w HR.out).mono ?_
  rintro e w' ⟨rfl, rfl⟩
  go_wp2
  go_ret
  exact ⟨rfl, rfl⟩
theorem hasS_out (p g room : Nat) (l : List (List UInt8)) (k : Int) (w : World) (h : RingS w p g room l) (hk : k < 0 ∨ (l.length : Int) ≤ k) :
    Calls Tryz.prog 116 #[.pointer (some ⟨p, 0, none⟩), .int .i64 k] w fun e w' => e = .returned (.bool false) ∧ w = w' := by
  have HR := Lib.hid h
  clear h
  by_cases h0 : k < 0
  · have d1 : decide ((0 : Int) ≤ k) = false := by simp; omega
    clear hk
    go_enter Tryz.func116, Tryz.ntmps116
    go_wp2
    go_ret
    exact ⟨rfl, rfl⟩
  · have d1 : decide ((0 : Int) ≤ k) = true := by simp; omega
    have d2 : decide (k < (l.length : Int)) = false := by simp; omega
    clear hk h0
    go_enter Tryz.func116, Tryz.ntmps116
    go_wp2_with fail
    refine (lenS_any p g room l w HR.out).mono ?_
    rintro e w' ⟨rfl, rfl⟩
    go_wp2
    go_ret
    exact ⟨rfl, rfl⟩
theorem hasS_nil (k : Int) (w : World) : Calls Tryz.prog 116 #[.pointer none, .int .i64 k] w fun e w' => e = .returned (.bool false) ∧ w = w' := by
  by_cases h0 : k < 0
  · have d1 : decide ((0 : Int) ≤ k) = false := by simp; omega
    go_enter Tryz.func116, Tryz.ntmps116
    go_wp2
    go_ret
    exact ⟨rfl, rfl⟩
  · have d1 : decide ((0 : Int) ≤ k) = true := by simp; omega
    have d2 : decide (k < (0 : Int)) = false := by simp; omega
    clear h0
    go_enter Tryz.func116, Tryz.ntmps116
    go_wp2_with fail
    refine (lenS_nil w).mono ?_
    rintro e w' ⟨rfl, rfl⟩
    go_wp2
    go_ret
    exact ⟨rfl, rfl⟩
theorem cellS_at (p g n first : Nat) (k : Nat) (rv lv : Value) (w : World) (hs : Sits w p 116 #[rv, .slice (some ⟨g, 0, none⟩) n n, .int .i64 first, lv]) (h1 : first < n) (h2 : n ≤ 100000) (hk : k ≤ 100000) :
    Calls Tryz.prog 90 #[.pointer (some ⟨p, 0, none⟩), .int .i64 k] w fun e w' => e = .returned (.int .i64 ((first + k) % n : Nat)) ∧ ∃ n, w' = w.drewN n := by
  have c1 := hs.cell 1
  have c2 := hs.cell 2
  have hr : IntKind.i64.wrap ((first : Int) + (k : Int)) = ((first + k : Nat) : Int) := by
    rw [← Int.natCast_add]
    exact IntWalk.i64_in _ (by omega)
  have hz : decide ((n : Int) = 0) = false := by simp; omega
  have hq : ((first + k : Nat) : Int).tmod (n : Int) = ((first + k) % n : Nat) := by
    rw [Int.tmod_eq_emod_of_nonneg (by omega)]
    omega
  have hl : ((first + k) % n) < n := Nat.mod_lt _ (by omega)
  have hrr : IntKind.i64.wrap (((first + k) % n : Nat) : Int) = (((first + k) % n : Nat) : Int) := IntWalk.i64_in _ (by omega)
  have hn : (n : Int) ≤ 100000 := by omega
  clear hs h2 hk
  go_enter Tryz.func90, Tryz.ntmps90
  go_wp2
  go_quiet (fail)
  go_wp2
  go_ret
  exact ⟨by simp, _, rfl⟩
theorem cellS_any (p g room n first : Nat) (l : List (List UInt8)) (k : Nat) (w : World) (h : RingCS w p g room n first l) (hk : k ≤ 100000) :
    Calls Tryz.prog 90 #[.pointer (some ⟨p, 0, none⟩), .int .i64 k] w fun e w' => e = .returned (.int .i64 ((first + k) % n : Nat)) ∧ ∃ n, w' = w.drewN n :=
  cellS_at p g n first k _ _ w h.sits h.first_lt (Nat.le_trans h.n_le h.small) hk
theorem cellqS_any (p g room n first : Nat) (l : List (List UInt8)) (k m : Nat) (w : World) (h : RingCS w p g room n first l) (hk : k ≤ 100000) (hm : m = (first + k) % n) (j : Nat) :
    Calls Tryz.prog 90 #[.pointer (some ⟨p, 0, none⟩), .int .i64 k] (w.drewN j) fun e w' => e = .returned (.int .i64 m) ∧ ∃ n, w' = w.drewN n := by
  refine (cellS_any p g room n first l k _ (h.drewN j) hk).mono ?_
  rintro e w' ⟨rfl, i, rfl⟩
  exact ⟨by rw [hm], j + i, World.drewN_drewN w j i⟩
theorem peekS_in (p g room : Nat) (l : List (List UInt8)) (k : Nat) (w : World) (h : RingS w p g room l) (hk : k < l.length) :
    Calls Tryz.prog 91 #[.pointer (some ⟨p, 0, none⟩), .int .i64 k] w fun e w' => e = .returned (.tuple #[(Value.string (str (l[k]))), .bool true]) ∧ ∃ n, w' = w.drewN n := by
  have HR := Lib.hid h
  obtain ⟨n, first, hc⟩ := h.full (by omega)
  have c1 := hc.sits.cell 1
  have hs := hc.small
  have hl := hc.len_le
  have hn := hc.n_le
  have hf := hc.first_lt
  obtain ⟨cur, hg, hz, hcur⟩ := hc.cells
  have cg := hg.cell ((first + k) % n)
  rw [hcur k hk] at cg
  have hlt : ((first + k) % n) < n := Nat.mod_lt _ (by omega)
  generalize l[k] = x at cg ⊢
  obtain ⟨m, hm⟩ : ∃ m, m = (first + k) % n := ⟨_, rfl⟩
  have HC := Lib.hid hc
  have HK := Lib.hid hk
  have HKM : Hid (k ≤ 100000) := Lib.hid (by omega)
  rw [← hm] at cg hlt
  have HM := Lib.hid hm
  have hn2 : (n : Int) ≤ 100000 := by omega
  clear h hc hk hg hcur hz hs hl hf hm hn
  go_enter Tryz.func91, Tryz.ntmps91
  go_wp2_with fail
  refine (hasS_in p g room l k w HR.out HK.out).mono ?_
  rintro e w' ⟨rfl, rfl⟩
  go_wp2_with fail
  go_quiet (exact cellqS_any p g room n first l k m w HC.out HKM.out HM.out _)
  go_wp2
  go_ret2
  exact ⟨rfl, _, rfl⟩
theorem peekS_out (p g room : Nat) (l : List (List UInt8)) (k : Int) (w : World) (h : RingS w p g room l) (hk : k < 0 ∨ (l.length : Int) ≤ k) :
    Calls Tryz.prog 91 #[.pointer (some ⟨p, 0, none⟩), .int .i64 k] w fun e w' => e = .returned (.tuple #[(Value.string ⟨#[]⟩), .bool false]) ∧ w = w' := by
  have HR := Lib.hid h
  have HK := Lib.hid hk
  clear h hk
  go_enter Tryz.func91, Tryz.ntmps91
  go_wp2_with fail
  refine (hasS_out p g room l k w HR.out HK.out).mono ?_
  rintro e w' ⟨rfl, rfl⟩
  go_wp2
  go_ret2
  exact ⟨rfl, rfl⟩
theorem peekS_nil (k : Int) (w : World) : Calls Tryz.prog 91 #[.pointer none, .int .i64 k] w fun e w' => e = .returned (.tuple #[(Value.string ⟨#[]⟩), .bool false]) ∧ w = w' := by
  go_enter Tryz.func91, Tryz.ntmps91
  go_wp2_with fail
  refine (hasS_nil k w).mono ?_
  rintro e w' ⟨rfl, rfl⟩
  go_wp2
  go_ret2
  exact ⟨rfl, rfl⟩
theorem RingCS.leaves {w : World} {p g room n first : Nat} {x : (List UInt8)} {l : List (List UInt8)} (h : RingCS w p g room n first (x :: l)) (a b : Nat) :
    RingCS ((((((w.drewN a).setCell ⟨g, first, none⟩ (Value.string ⟨#[]⟩)).drewN b).setCell ⟨p, 2, none⟩ (.int .i64 ((first + 1) % n : Nat))).setCell ⟨p, 3, none⟩ (.int .i64 l.length))) p g room n ((first + 1) % n) l := by
  have hne := h.ne
  obtain ⟨cur, hg, hz, hc⟩ := h.cells
  have hf := h.first_lt
  have hl := h.len_le
  simp only [List.length_cons] at hl
  have hlt : (first + 1) % n < n := Nat.mod_lt _ (by omega)
  refine ⟨((((h.sits.drewN a).away (p := ⟨g, first, none⟩) (Ne.symm hne) (Value.string ⟨#[]⟩)).drewN b).put 2 _).put 3 _, hlt, h.n_le, by omega, h.small, _, ((((hg.drewN a).put first (Value.string ⟨#[]⟩)).drewN b).away (p := ⟨p, 2, none⟩) hne _).away (p := ⟨p, 3, none⟩) hne _, by simp [hz], fun i hi => ?_⟩
  have e1 : ((first + 1) % n + i) % n = (first + (i + 1)) % n := by
    rw [Nat.add_mod, Nat.mod_mod, ← Nat.add_mod]
    congr 1
    omega
  have e2 : first ≠ (first + (i + 1)) % n := by
    intro e3
    rcases Nat.lt_or_ge (first + (i + 1)) n with h1 | h1
    · rw [Nat.mod_eq_of_lt h1] at e3; omega
    · rw [Nat.mod_eq_sub_mod h1, Nat.mod_eq_of_lt (by omega)] at e3; omega
  rw [e1, Array.getElem?_setIfInBounds, if_neg e2, hc (i + 1) (by simpa using hi)]
  rfl
theorem leaveS_any (p g room : Nat) (x : (List UInt8)) (l : List (List UInt8)) (w : World) (h : RingS w p g room (x :: l)) :
    Calls Tryz.prog 117 #[.pointer (some ⟨p, 0, none⟩)] w fun e w' => e = .returned (.tuple #[]) ∧ RingS w' p g room l ∧ Two p g w w' := by
  obtain ⟨n, first, hc⟩ := h.full (by simp)
  have hne := hc.ne
  have hs := hc.small
  have hl := hc.len_le
  have hn := hc.n_le
  have hf := hc.first_lt
  have hk : 0 < (x :: l).length := by simp
  obtain ⟨cur, hg, hz, hcur⟩ := hc.cells
  have cg := hg.cell first
  have fg := hg.warm first
  have e0 : (first + 0) % n = first := Nat.mod_eq_of_lt (by omega)
  have e1 := hcur 0 hk
  rw [e0] at e1
  rw [e1] at cg
  simp only [List.getElem_cons_zero] at cg
  have c1 := hc.sits.cell 1
  have c2 := hc.sits.cell 2
  have c3 := hc.sits.cell 3
  have f2 := hc.sits.warm 2
  have f3 := hc.sits.warm 3
  have hlen : ((x :: l).length : Int) = (l.length : Int) + 1 := by simp
  rw [hlen] at c3
  have hl2 : (l.length : Int) ≤ 100000 := by simp only [List.length_cons] at hl; omega
  have hone : Two p g w w := Two.refl p g w
  have HF := Lib.hid (fun a b => (RingS.intro (hc.leaves a b) : RingS _ p g room l))
  have HT := Lib.hid (fun a b => ((((((Two.refl p g w).drewN a).store2 first (Value.string ⟨#[]⟩)).drewN b).store1 2 (.int .i64 ((first + 1) % n : Nat))).store1 3 (.int .i64 l.length)))
  have HS := Lib.hid (hc.sits.away (p := ⟨g, first, none⟩) (Ne.symm hne) (Value.string ⟨#[]⟩)).drew
  have HN : Hid (n ≤ 100000) := Lib.hid (by omega)
  have hfi : (first : Int) < (n : Int) := by omega
  have HFN := Lib.hid hf
  have hn2 : (n : Int) ≤ 100000 := by omega
  clear h hc hg hcur hz hs hl hn e0 e1 hk hlen hone
  go_enter Tryz.func117, Tryz.ntmps117
  go_wp2
  go_region
  all_goals go_wp2_with fail
  refine (cellS_at p g n first 1 _ _ _ HS.out HFN.out HN.out (by omega)).mono ?_
  rintro e w' ⟨rfl, k, rfl⟩
  go_wp2
  go_end0
  have e2 : (((first : Int) + 1) % (n : Int)) = (((first + 1) % n : Nat) : Int) := by simp
  rw [e2]
  exact ⟨rfl, HF.out 0 (1 + k), HT.out 0 (1 + k)⟩
end Go.Proofs.YtlaclbcckadmkaaGreat
namespace Go.Proofs.YtlaclbcckadmkaaGreat
open Go Go.RowKit
set_option maxRecDepth 100000
set_option maxHeartbeats 1000000
set_option linter.unusedSimpArgs false

theorem popS_cons (p g room : Nat) (x : (List UInt8)) (l : List (List UInt8)) (w : World) (h : RingS w p g room (x :: l)) :
    Calls Tryz.prog 92 #[.pointer (some ⟨p, 0, none⟩)] w fun e w' => e = .returned (.tuple #[(Value.string (str x)), .bool true]) ∧ RingS w' p g room l ∧ Two p g w w' := by
  have HR := Lib.hid h
  clear h
  go_enter Tryz.func92, Tryz.ntmps92
  go_wp2_with fail
  refine (peekS_in p g room (x :: l) 0 w HR.out (by simp)).mono ?_
  rintro e w' ⟨rfl, n, rfl⟩
  simp only [List.getElem_cons_zero]
  go_wp2_with fail
  refine (leaveS_any p g room x l _ (HR.out.drewN n)).mono ?_
  rintro e w1 ⟨rfl, hR, hT⟩
  have HR1 := Lib.hid hR
  have HT := Lib.hid (((Two.refl p g w).drewN n).trans hT (.inl rfl))
  clear hR hT
  go_wp2
  go_ret2
  exact ⟨rfl, HR1.out, HT.out⟩
theorem popS_empty (p g room : Nat) (w : World) (h : RingS w p g room []) :
    Calls Tryz.prog 92 #[.pointer (some ⟨p, 0, none⟩)] w fun e w' => e = .returned (.tuple #[(Value.string ⟨#[]⟩), .bool false]) ∧ w = w' := by
  have HR := Lib.hid h
  clear h
  go_enter Tryz.func92, Tryz.ntmps92
  go_wp2_with fail
  refine (peekS_out p g room [] 0 w HR.out (by simp)).mono ?_
  rintro e w' ⟨rfl, rfl⟩
  go_wp2
  go_ret2
  exact ⟨rfl, rfl⟩
theorem popS_nil (w : World) : Calls Tryz.prog 92 #[.pointer none] w fun e w' => e = .returned (.tuple #[(Value.string ⟨#[]⟩), .bool false]) ∧ w = w' := by
  go_enter Tryz.func92, Tryz.ntmps92
  go_wp2_with fail
  refine (peekS_nil 0 w).mono ?_
  rintro e w' ⟨rfl, rfl⟩
  go_wp2
  go_ret2
  exact ⟨rfl, rfl⟩
theorem arrS_ext (cur : Array Value) (l : List (List UInt8)) (hz : cur.size = l.length) (h : ∀ i (_ : i < l.length), cur[i]? = some (Value.string (str (l[i])))) : cur = (l.map (fun x => (Value.string (str x)))).toArray := by
  refine Array.ext_getElem? fun i => ?_
  by_cases hi : i < l.length
  · rw [h i hi]
    simp [hi]
  · rw [Array.getElem?_eq_none (by omega)]
    simp
    rw [List.getElem?_eq_none (by omega)]
    rfl
theorem arrS_put (cur : Array Value) (l : List (List UInt8)) (k : Nat) (y : (List UInt8)) (hz : cur.size = l.length) (h : ∀ i (_ : i < l.length), i < k → cur[i]? = some (Value.string (str (l[i])))) {hk : k < l.length} (hy : y = l[k]) :
    ∀ i (_ : i < l.length), i < k + 1 → (cur.setIfInBounds k (Value.string (str y)))[i]? = some (Value.string (str (l[i]))) := by
  intro i hi h1
  rw [Array.getElem?_setIfInBounds]
  by_cases e : k = i
  · subst e
    rw [if_pos rfl, if_pos (by omega), hy]
  · rw [if_neg e]
    exact h i hi (by omega)
theorem infoS : (Tryz.prog.info? 9).map (fun i => (i.zero, i.size, i.bytes)) = some (some (Value.string ⟨#[]⟩), 1, 16) := by kernel_rfl
theorem listS_any (p g room : Nat) (l : List (List UInt8)) (w : World) (h : RingS w p g room l) :
    Calls Tryz.prog 115 #[.pointer (some ⟨p, 0, none⟩)] w fun e w' => e = .returned (.slice (some ⟨w.heap.size, 0, none⟩) l.length l.length) ∧
      Sits w' w.heap.size 9 (l.map (fun x => (Value.string (str x)))).toArray ∧ Below w.heap.size w w' := by
  have HR := Lib.hid h
  obtain ⟨h1, h2, _⟩ := h.head
  obtain ⟨i0, hi, hz0, hz1, hz2⟩ := info_parts infoS
  have hmk := run_make (P := Tryz.prog) w 114 9 i0 _ Tryz.underlying114 hi hz0 .i64 .i64 l.length l.length (by omega) (by omega) (by rw [hz2]; omega) (by omega)
  simp only [Int.toNat_natCast, hz1, Nat.mul_one] at hmk
  have hll : (l.length : Int) ≤ 100000 := by omega
  have HR := Lib.hid (h.below ((Below.refl _ w).alloc (Nat.le_refl _) (.cells (madeCells (Value.cells (Value.string ⟨#[]⟩)) l.length) 9)))
  have HS := Lib.hid (Sits.fresh w 9 (madeCells (Value.cells (Value.string ⟨#[]⟩)) l.length))
  have HB := Lib.hid ((Below.refl w.heap.size w).alloc (Nat.le_refl _) (.cells (madeCells (Value.cells (Value.string ⟨#[]⟩)) l.length) 9))
  have HL := Lib.hid h
  have hsz : (madeCells (Value.cells (Value.string ⟨#[]⟩)) l.length).size = l.length := size_madeCells _ _
  generalize madeCells (Value.cells (Value.string ⟨#[]⟩)) l.length = cz at hmk HR HS HB hsz
  have HZ := Lib.hid hsz
  clear h h1 h2 hi hz0 hz1 hz2 hsz
  go_enter Tryz.func115, Tryz.ntmps115
  go_wp2_with fail
  refine (lenS_any p g room l _ HL.out).mono ?_
  rintro e w' ⟨rfl, rfl⟩
  go_wp2
  go_loopw [10] (fun i wr => ∃ k : Nat, k ≤ l.length ∧ i = .int .i64 k ∧ RingS wr p g room l ∧ Below w.heap.size w wr ∧
    ∃ cur, Sits wr w.heap.size 9 cur ∧ cur.size = l.length ∧ ∀ i (_ : i < l.length), i < k → cur[i]? = some (Value.string (str (l[i])))) (fun i _ => l.length - (intOf i).toNat)
  case atStart => exact ⟨0, by omega, rfl, HR.out, HB.out, cz, HS.out, HZ.out, fun i _ h => by omega⟩
  case round =>
    obtain ⟨k, hk, rfl, hR, hB, cur, hS, hz, hcur⟩ := hrel
    by_cases hlt : k < l.length
    · obtain ⟨n, first, hc⟩ := hR.full (by omega)
      have c1 := hc.sits.cell 1
      have hs := hc.small
      have hl := hc.len_le
      have hn := hc.n_le
      obtain ⟨rc, hg, hrz, hrc⟩ := hc.cells
      have cg := hg.cell ((first + k) % n)
      rw [hrc k hlt] at cg
      have hml : ((first + k) % n) < n := Nat.mod_lt _ (by omega)
      obtain ⟨y, hy⟩ : ∃ y, y = l[k] := ⟨_, rfl⟩
      rw [← hy] at cg
      have hck : wr.cell? ⟨w.heap.size, k, none⟩ = some cur[k] := by rw [hS.cell k]; simp [hz, hlt]
      have fck := hS.warm k
      have hgw : p ≠ w.heap.size ∧ g ≠ w.heap.size := by
        have := HL.out.lt
        omega
      have hnew := fun j => (hS.drewN j).put k (Value.string (str y))
      have hkeep := fun j => (hR.drewN j).away hgw.1 hgw.2 k (Value.string (str y))
      have hbel := fun j => below_put (below_drewN hB j) (Nat.le_refl _) k (Value.string (str y))
      generalize cur[k] = old at hck
      obtain ⟨m, hm⟩ : ∃ m, m = (first + k) % n := ⟨_, rfl⟩
      rw [← hm] at cg hml
      have HC := Lib.hid hc
      have HM := Lib.hid hm
      have HKM : Hid (k ≤ 100000) := Lib.hid (by omega)
      have HNEW := Lib.hid hnew
      have HKEEP := Lib.hid hkeep
      have HBEL := Lib.hid hbel
      have HCUR := Lib.hid (And.intro hz (And.intro hcur hy))
      have hn2 : (n : Int) ≤ 100000 := by omega
      have hlt2 : (m : Int) < (n : Int) := by omega
      clear hR hB hS hz hcur hc hs hl hn hg hrz hrc hm hnew hkeep hbel hgw hy
      go_wp2_with fail
      go_region_with (refine (cellS_any p g room n first l k _ (HC.out.drewN 1) HKM.out).mono ?_; rintro e w' ⟨rfl, nn, rfl⟩; rw [← HM.out])
      all_goals go_wp2
      all_goals go_roundw
      all_goals first
        | exact ⟨k + 1, by omega, by go_num, HKEEP.out _, HBEL.out _, _, HNEW.out _, by simp [HCUR.out.1], arrS_put cur l k y HCUR.out.1 HCUR.out.2.1 HCUR.out.2.2⟩
        | (simp [intOf]; omega)
    · have hkl : k = l.length := by omega
      subst hkl
      have HB1 := Lib.hid hB
      have HS1 := Lib.hid hS
      have HC1 := Lib.hid (arrS_ext cur l hz (fun i hi => hcur i hi hi))
      clear hR hB hS hz hcur
      go_wp2
      go_ret
      rw [← HC1.out]
      exact ⟨rfl, HS1.out, HB1.out⟩
end Go.Proofs.YtlaclbcckadmkaaGreat
