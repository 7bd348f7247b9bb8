/- Chapter 12's LogRound: the document's Most at this shape; one image appended; Sync and Free of a log that goes on. -/
import Derived.Test.YtlaclbcckadmkaaGreatWlS
import Derived.Test.YtlaclbcckadmkaaGreatGA
namespace Go.Proofs.YtlaclbcckadmkaaGreat
open Go Go.RowKit DskP WlP SupP RdkP
set_option maxRecDepth 100000
set_option maxHeartbeats 1000000
set_option linter.unusedSimpArgs false

theorem refsec_in (n : Nat) (h1 : 1 ≤ n) (h2 : n ≤ 60) (w : World) : Calls Tryz.prog 51 #[.int .i64 (n : Int)] w fun e w' => e = .returned (.int .i64 (secN n : Int)) ∧ w = w' := by
  have d1 : decide ((n : Int) < 1) = false := decide_eq_false (by omega)
  have d2 : decide ((60 : Int) < (n : Int)) = false := decide_eq_false (by omega)
  have d3 : decide (n < 1) = false := decide_eq_false (by omega)
  have d4 : decide (60 < n) = false := decide_eq_false (by omega)
  have e2 : IntKind.i64.wrap (108 * (n : Int)) = 108 * (n : Int) := IntWalk.i64_in _ (by omega)
  have e3 : IntKind.i64.wrap (108 * (n : Int) + 41) = 108 * (n : Int) + 41 := IntWalk.i64_in _ (by omega)
  have e4 : (108 * (n : Int) + 41).tdiv 42 = ((secN n : Nat) : Int) := by
    rw [Int.tdiv_eq_ediv_of_nonneg (by omega)]
    unfold secN
    rw [if_neg (by omega)]
    omega
  have e5 : IntKind.i64.wrap ((secN n : Nat) : Int) = ((secN n : Nat) : Int) := IntWalk.i64_in _ (by unfold secN; split <;> omega)
  generalize secN n = q at e4 e5
  clear h1 h2
  go_enter Tryz.func51, Tryz.ntmps51
  go_wp2
  go_ret
  exact ⟨rfl, rfl⟩
theorem refmost8_any (w : World) : Calls Tryz.prog 22 #[.int .i64 8] w fun e w' => e = .returned (.int .i64 1) ∧ w = w' := by
  have HSE := Lib.hid refsec_in
  go_enter Tryz.func22, Tryz.ntmps22
  go_wp2_with fail
  go_loopw [3, 4] (fun mv nv wr => wr = w ∧ ∃ n : Nat, 1 ≤ n ∧ n ≤ 61 ∧ nv = .int .i64 (n : Int) ∧ mv = .int .i64 (if n = 1 then 0 else 1)) (fun _ nv _ => 61 - (intOf nv).toNat)
  case atStart => exact ⟨rfl, 1, by omega, by omega, rfl, rfl⟩
  case round =>
    obtain ⟨rfl, n, h1, h2, rfl, rfl⟩ := hrel
    by_cases hlt : n ≤ 60
    · have d1 : decide ((n : Int) ≤ 60) = true := decide_eq_true (by omega)
      have d2 : decide (n ≤ 60) = true := decide_eq_true hlt
      have HC := Lib.hid (HSE.out n h1 hlt wr)
      obtain ⟨s, hs⟩ : ∃ s, s = secN n := ⟨_, rfl⟩
      rw [← hs] at HC
      have e1 : IntKind.i64.wrap ((n : Int) + 1) = ((n + 1 : Nat) : Int) := by rw [show (n : Int) + 1 = ((n + 1 : Nat) : Int) by omega]; exact IntWalk.i64_in _ (by omega)
      by_cases hn1 : n = 1
      · subst hn1
        have hs3 : s = 3 := by rw [hs]; decide
        subst hs3
        clear hs
        go_wp2_with fail
        refine HC.out.mono ?_
        rintro e w2 ⟨rfl, rfl⟩
        go_wp2
        go_roundw
        case rel => exact ⟨trivial, 2, by omega, by omega, rfl, rfl⟩
        case measure => simp [intOf]
      · have hs4 : 3 < s := by rw [hs, secN_of (by omega) hlt]; omega
        have d3 : decide ((s : Int) ≤ 3) = false := decide_eq_false (by omega)
        have d4 : decide (s ≤ 3) = false := decide_eq_false (by omega)
        rw [if_neg hn1]
        clear hs hs4
        go_wp2_with fail
        refine HC.out.mono ?_
        rintro e w2 ⟨rfl, rfl⟩
        go_wp2
        go_roundw
        case rel => exact ⟨trivial, n + 1, by omega, by omega, rfl, by rw [if_neg (by omega)]⟩
        case measure => simp [intOf]; omega
    · have hn : n = 61 := by omega
      subst hn
      rw [if_neg (by omega)]
      go_wp2
      go_ret
      exact ⟨rfl, rfl⟩
theorem elemIm : Elem Tryz.prog 56 42 (.agg #[.int .i64 0, .int .u64 0, .string ⟨#[]⟩]) 3 32 := ⟨Tryz.underlying56, by kernel_rfl, rfl, by omega⟩
/-- One image, appended onto no list. -/
theorem append_im (W : World) (i : Im) (ty : TypeId) : ∃ A cap W', (Builtin.append_ #[56, 56] ty #[.slice none 0 0, .slice (some ⟨W.heap.size, 0, none⟩) 1 1]).run Tryz.prog (W.alloc (.cells #[.int .i64 i.b, .int .u64 (i.v : Int), .string (str i.d)] 42)) = .ok (.slice A 1 cap) W' ∧
    Ims W' (.slice A 1 cap) [i] ∧ Below W.heap.size W W' := by
  have hmx : maxLen = 9223372036854775807 := by decide
  have hal : Below W.heap.size W (W.alloc (.cells #[.int .i64 i.b, .int .u64 (i.v : Int), .string (str i.d)] 42)) := (Below.refl _ W).alloc (Nat.le_refl _) _
  have hsrc : Src Tryz.prog 3 56 (.slice (some ⟨W.heap.size, 0, none⟩) 1 1) 1 (encIm i) (W.alloc (.cells #[.int .i64 i.b, .int .u64 (i.v : Int), .string (str i.d)] 42)) := src_slice Tryz.underlying56 rfl (fun _ => ⟨W.heap.size, 0, rfl, fun j u hu => by
    rw [Nat.zero_add, (Sits.fresh W 42 #[.int .i64 i.b, .int .u64 (i.v : Int), .string (str i.d)]).cell j]
    simpa [encIm] using hu⟩) (by simp [encIm, Value.oneCell'])
  obtain ⟨v3, w3, hr3, hX4, gr3, at3⟩ := appendAt_src elemIm (RowAt.nil (W.alloc (.cells #[.int .i64 i.b, .int .u64 (i.v : Int), .string (str i.d)] 42)) W.heap.size _ _) hsrc ty (by omega) (by omega) (by rw [World.size_alloc]; omega)
  obtain ⟨A3, c3, hv3, h31, h32, h33, h34⟩ := hX4.form
  have hB : Below W.heap.size W w3 := hal.grown gr3 (by rw [World.size_alloc]; omega) (fun k hk => by simp [Value.ownBlock] at hk)
  subst hv3
  refine ⟨A3, c3, w3, hr3, ⟨A3, c3, rfl, h31, h32, fun j hj => ?_⟩, hB⟩
  obtain rfl : j = 0 := by simpa using hj
  obtain ⟨g, o, rfl⟩ := h33 (by omega)
  obtain ⟨_, h6, h7, _⟩ := h34 g o rfl
  refine ⟨g, o, rfl, h6, fun k u hu => ?_⟩
  rw [show o + 0 * 3 + k = o + k by omega]
  exact h7 k u (by simpa using hu)
section
variable {S : Nat → Prop} {w0 w : World} {d p k q : Nat} {G : Lg} {D : Dsk}
/-- A log at which a round of LogRound stands. -/
structure RoundAt (d p k q : Nat) (S : Nat → Prop) (w0 : World) (G : Lg) (D : Dsk) (c : Nat) (w : World) : Prop where
  at_ : At (LDP d p k q G D) S w0 w
  go : LGo G D
  n : D.n = 37
  pl : G.places = 7
  cnt : D.count ≤ c
theorem RoundAt.down {c : Nat} {w' : World} (h : RoundAt d p k q S w0 G D c w) (hb : Below w.heap.size w w') : RoundAt d p k q S w0 G D c w' := ⟨h.at_.down (holdLD d p k q G D) hb, h.go, h.n, h.pl, h.cnt⟩
theorem RoundAt.more {c c' : Nat} (h : RoundAt d p k q S w0 G D c w) (hc : c ≤ c') : RoundAt d p k q S w0 G D c' w := ⟨h.at_, h.go, h.n, h.pl, Nat.le_trans h.cnt hc⟩
theorem RoundAt.pend {c : Nat} (h : RoundAt d p k q S w0 G D c w) : G.pend.length ≤ 7 := by
  have h1 := h.go.ok.many
  have h2 := h.pl
  omega
theorem round_sync {c : Nat} (hS : ∀ i, w0.heap.size ≤ i → S i) (h : RoundAt d p k q S w0 G D c w) (hc : c ≤ 900000) : Calls Tryz.prog 12 #[.pointer (some ⟨p, 0, none⟩)] w fun e w' => e = .returned (.int .i64 0) ∧ ∃ D', RoundAt d p k q S w0 (wlast G) D' (c + 1085) w' := by
  have hp := h.pend
  have hcn := h.cnt
  obtain ⟨D', e1, g1, n1, c1⟩ := wsync_go h.go
  refine ((lgsync_any d p k q G D h.go.ok (by omega)).at_ hS h.at_).mono ?_
  rintro e w' ⟨rfl, hA⟩
  rw [e1] at hA ⊢
  exact ⟨rfl, D', hA, g1, n1.trans h.n, h.pl, by omega⟩
theorem round_free {c : Nat} (hS : ∀ i, w0.heap.size ≤ i → S i) (h : RoundAt d p k q S w0 G D c w) (hc : c ≤ 900000) (below : Nat) (hb : below ≤ G.synced + 1) : Calls Tryz.prog 13 #[.pointer (some ⟨p, 0, none⟩), .int .u64 (below : Int)] w fun e w' =>
    e = .returned (.int .i64 0) ∧ ∃ G' D', RoundAt d p k q S w0 G' D' (c + 1) w' ∧ G'.next = G.next ∧ (below = G.next → G'.used = 0) := by
  have hcn := h.cnt
  have hnx := h.go.ok.next
  have hsy := h.go.ok.sync
  have hpn := h.go.ok.pendN
  have hkn := h.go.ok.keptN
  obtain ⟨D', e1, g1, n1, c1⟩ := wfree_go h.go hb
  refine ((lgfree_any d p k q G D h.go.ok (by omega) below (by omega)).at_ hS h.at_).mono ?_
  rintro e w' ⟨rfl, hA⟩
  rw [e1] at hA ⊢
  simp only at hA ⊢
  refine ⟨rfl, _, D', ⟨hA, g1, n1.trans h.n, ?_, by omega⟩, ?_, ?_⟩
  · split
    · exact h.pl
    · exact h.pl
  · split <;> rfl
  · intro hbn
    have hu := g1.ok.used
    split at hu
    · rename_i h1
      rw [if_pos h1]
      rw [hu, List.eq_nil_of_length_eq_zero (show G.kept.length = 0 by omega)]
      rfl
    · rename_i h1
      rw [if_neg h1]
      rw [hu]
      show sumS (G.kept.drop (below - G.first)) = 0
      rw [List.drop_of_length_le (by omega)]
      rfl
end
end Go.Proofs.YtlaclbcckadmkaaGreat
