/- NetPlays' round, whole, and its loop. -/
import Derived.Test.YtkfbljbhdjnggaaNpE
import Derived.Test.YtkfbljbhdjnggaaNetS
namespace Go.Proofs.Ytkfbljbhdjnggaa
open Go Go.RowKit Go.Maps Go.ChangeShapes Go.WideShapes Go.ChangeAt NetP
set_option maxRecDepth 1000000
set_option maxHeartbeats 4000000
set_option linter.unusedSimpArgs false

theorem has_open {w wx : World} {g r c : Nat} {L : List Pk} {C : List (Int × Int)} (h : Has (BN g r c L C L C) w wx) (a : St14) : StN w (wx.alloc (.cells (opC a) 37)) g r wx.heap.size c L C L C a := by
  have hb : Below wx.heap.size wx (wx.alloc (.cells (opC a) 37)) := (Below.refl _ _).alloc (Nat.le_refl _) _
  exact ⟨(holdBN _ _ _ _ _ _ _).mono ((holdBN _ _ _ _ _ _ _).keep ((holdBN _ _ _ _ _ _ _).less h.here) fun i hi _ => hb.block i hi.2) fun i hi => ⟨hi.1, by have := hi.2; omega⟩, h.below.trans (hb.mono h.below.size), Sits.fresh wx _ _, h.below.size⟩
theorem StN.has {w wx : World} {g r ob c : Nat} {L : List Pk} {C : List (Int × Int)} {a : St14} (h : StN w wx g r ob c L C L C a) : Has (BN g r c L C L C) w wx := ⟨(holdBN _ _ _ _ _ _ _).mono h.nets fun _ hi => hi.1, h.low⟩
/-- What a round asks of a frame. -/
def Head (v1 v5 v6 v7 : Value) (a' : Act) : Prop :=
  a'.defers = [] ∧ a'.tmps.size = 264 ∧ a'.tmps.getD 1 undef = v1 ∧ a'.tmps.getD 5 undef = v5 ∧ a'.tmps.getD 6 undef = v6 ∧ a'.tmps.getD 7 undef = v7
/-- The round ends: the next one's number. -/
theorem next_round (f : Nat → Value) (wr : World) (v1 v5 v6 : Value) (j : Nat) (hj : (j : Int) < 9223372036854775807) (Q : Exit → Act → World → Prop) (h1 : f 1 = v1) (h5 : f 5 = v5) (h6 : f 6 = v6) (h7 : f 7 = .int .i64 j)
    (hQ : ∀ a', Head v1 v5 v6 (.int .i64 (j + 1 : Nat)) a' → Q .normal a' wr) : Code.wp Try.prog nextL Q ⟨frame f, []⟩ wr := by
  have e1 : IntKind.i64.wrap ((j : Int) + 1) = ((j + 1 : Nat) : Int) := by rw [IntWalk.i64_in _ (by omega)]; omega
  have HQ := Lib.hid hQ
  clear hQ
  subst h1 h5 h6
  unfold frame
  rw [h7]
  clear h7
  conv => arg 2; whnf
  go_wp2_with fail
  exact HQ.out _ ⟨rfl, rfl, rfl, rfl, rfl, rfl⟩
/-- No more rounds. -/
theorem last_round (f : Nat → Value) (wr : World) (A : Option Addr) (n cap : Nat) (v5 v6 : Value) (Q : Exit → Act → World → Prop) (h1 : f 1 = .slice A n cap) (h5 : f 5 = v5) (h6 : f 6 = v6) (h7 : f 7 = .int .i64 n)
    (hQ : ∀ a', Head (.slice A n cap) v5 v6 (.int .i64 n) a' → Q (.exit 0) a' wr) : Code.wp Try.prog bodyL Q ⟨frame f, []⟩ wr := by
  have HQ := Lib.hid hQ
  clear hQ
  subst h5 h6
  unfold frame
  rw [h1, h7]
  clear h1 h7
  rw [body_split]
  conv => arg 2; arg 1; whnf
  go_wp2_with fail
  exact HQ.out _ ⟨rfl, rfl, rfl, rfl, rfl, rfl⟩
/-- What is known of an operation. -/
structure Good14 (w : World) (a : St14) : Prop where
  a_ : i64ok a.a
  b_ : i64ok a.b
  pks : ∀ x ∈ a.l, PkW x
  at_ : ∀ W, Below w.heap.size w W → Pks W a.s a.l
/-- The switch, whatever the call is. -/
theorem sw_all (f : Nat → Value) (w w3 : World) (g r ob c : Nat) (L : List Pk) (C : List (Int × Int)) (a : St14) (Q : Exit → Act → World → Prop) (hST : StN w w3 g r ob c L C L C a) (hc : c ≤ 1000) (hC : C.length ≤ 1000) (hg : Good14 w a) (hl : a.l.length ≤ 60)
    (h5 : f 5 = .pointer (some ⟨g, 0, none⟩)) (h6 : f 6 = .pointer (some ⟨r, 0, none⟩)) (h8 : f 8 = .pointer (some ⟨ob, 0, none⟩)) (h9 : f 9 = .bool false) (h10 : f 10 = .bool false) (h50 : f 50 = .int .i64 a.k)
    (hQ : SwQ f w g r ob c C a Q) : Code.wp Try.prog swL Q ⟨frame f, []⟩ w3 := by
  by_cases k1 : a.k = 1
  · exact sw_send f w w3 g r ob c L C a Q hST hc hC h5 h6 h8 h9 h10 h50 hQ hg.at_ hg.pks hl k1
  by_cases k2 : a.k = 2
  · exact sw_take f w w3 g r ob c L C a Q hST hc hC h5 h6 h8 h9 h10 h50 hQ k2
  by_cases k3 : a.k = 3
  · exact sw_drop f w w3 g r ob c L C a Q hST hc hC h5 h6 h8 h9 h10 h50 hQ k3
  by_cases k4 : a.k = 4
  · exact sw_double f w w3 g r ob c L C a Q hST hc hC h5 h6 h8 h9 h10 h50 hQ k4
  by_cases k5 : a.k = 5
  · exact sw_swap f w w3 g r ob c L C a Q hST hc hC h5 h6 h8 h9 h10 h50 hQ k5
  by_cases k6 : a.k = 6 ∨ a.k = 7
  · exact sw_cut f w w3 g r ob c L C a Q hST hc hC h5 h6 h8 h9 h10 h50 hQ ⟨wf_of hg.a_, wf_of hg.b_⟩ k6
  by_cases k8 : a.k = 8
  · exact sw_clear f w w3 g r ob c L C a Q hST hc hC h5 h6 h8 h9 h10 h50 hQ k8
  exact sw_many f w w3 g r ob c L C a Q hST hc hC h5 h6 h8 h9 h10 h50 hQ (by omega)
theorem sw_open {Q : Exit → Act → World → Prop} {a : Act} {w : World} (hd : a.defers = []) (hs : a.tmps.size = 264) (h : Code.wp Try.prog swL Q ⟨frame fun n => a.tmps.getD n undef, []⟩ w) : Code.wp Try.prog swL Q a w := by
  rw [open_act a hd hs]
  exact h
/-- A round, from its head to the next one's. -/
theorem body_round (f : Nat → Value) (w wr : World) (g r c : Nat) (L : List Pk) (C : List (Int × Int)) (A : Option Addr) (cap : Nat) (l : List St14) (j : Nat) (hj : j < l.length) (hl : l.length ≤ 120)
    (h3 : ∀ i (h : i < l.length), ∃ b o, A = some ⟨b, o, none⟩ ∧ b < w.heap.size ∧ ∀ k u, (enc14 l[i])[k]? = some u → w.cell? ⟨b, o + i * 4 + k, none⟩ = some u)
    (hok : ∀ x ∈ l, Good14 w x) (hA : Has (BN g r c L C L C) w wr) (hc : c ≤ j) (hC : C.length ≤ j) (Q : Exit → Act → World → Prop) (h1 : f 1 = .slice A l.length cap) (h5 : f 5 = .pointer (some ⟨g, 0, none⟩)) (h6 : f 6 = .pointer (some ⟨r, 0, none⟩)) (h7 : f 7 = .int .i64 j)
    (hQ : ∀ a' w' c' L' C', Head (.slice A l.length cap) (.pointer (some ⟨g, 0, none⟩)) (.pointer (some ⟨r, 0, none⟩)) (.int .i64 (j + 1 : Nat)) a' → Has (BN g r c' L' C' L' C') w w' → c' ≤ j + 1 → C'.length ≤ j + 1 → Q .normal a' w')
    (hR : ∀ a' w', a'.defers = [] → a'.tmps.size = 264 → a'.tmps.getD 4 undef = .bool true → Below w.heap.size w w' → Q .ret a' w') :
    Code.wp Try.prog bodyL Q ⟨frame f, []⟩ wr := by
  obtain ⟨b, o, rfl, hbw, hcb⟩ := h3 j hj
  obtain ⟨a, ha⟩ : ∃ a, a = l[j] := ⟨_, rfl⟩
  rw [← ha] at hcb
  have hgood := hok l[j] (List.getElem_mem hj)
  rw [← ha] at hgood
  have q0 := (hA.below.cell (p := ⟨b, o + j * 4 + 0, none⟩) hbw).trans (hcb 0 _ rfl)
  have q1 := (hA.below.cell (p := ⟨b, o + j * 4 + 1, none⟩) hbw).trans (hcb 1 _ rfl)
  have q2 := (hA.below.cell (p := ⟨b, o + j * 4 + 2, none⟩) hbw).trans (hcb 2 _ rfl)
  have q3 := (hA.below.cell (p := ⟨b, o + j * 4 + 3, none⟩) hbw).trans (hcb 3 _ rfl)
  simp only [Nat.add_zero] at q0
  have d3 : decide ((j : Int) < (l.length : Int)) = true := by simp; omega
  have hjn : (j : Int) < (l.length : Int) := by omega
  have hop := has_open hA a
  have hopc : opC a = #[.int .i64 a.k, .int .i64 a.a, .int .i64 a.b, a.s] := rfl
  rw [hopc] at hop
  have hcl : ∃ sA sl sc, a.s = .slice sA sl sc := by
    obtain ⟨A', cap', e, _⟩ := hgood.at_ w (Below.refl _ _)
    exact ⟨A', _, cap', e⟩
  obtain ⟨sA, sl, sc, hs⟩ := hcl
  rw [hs] at q3 hop
  obtain ⟨w3, hw3⟩ : ∃ w3, w3 = wr.alloc (.cells #[.int .i64 a.k, .int .i64 a.a, .int .i64 a.b, .slice sA sl sc] 37) := ⟨_, rfl⟩
  obtain ⟨ob, hob⟩ : ∃ ob, ob = wr.heap.size := ⟨_, rfl⟩
  rw [← hw3, ← hob] at hop
  have HST := Lib.hid hop
  have hsm := small14_any a.s a.l w3 (hgood.at_ w3 hop.low) hgood.pks
  rw [hs] at hsm
  have HSM := Lib.hid hsm
  have hoc := hop.cells
  rw [hs] at hoc
  obtain ⟨o0, o1, o2, o3, ol⟩ := hoc
  have HJ := Lib.hid (And.intro hj (And.intro hgood (And.intro hl (And.intro hc hC))))
  have HQ := Lib.hid hQ
  have HR := Lib.hid hR
  have HS := Lib.hid hs
  clear hj hgood hok hbw hcb ha h3 hQ hl hA hop hopc hc hC hR hsm hs
  unfold frame
  rw [h1, h5, h6, h7]
  clear h1 h5 h6 h7
  rw [body_split]
  rw [hw3, hob] at o0 o1 o2 o3 ol
  have HW3 := Lib.hid (And.intro hw3 hob)
  clear hw3 hob
  conv => arg 2; arg 1; whnf
  conv => arg 2; arg 2; arg 1; arg 2; arg 1; whnf
  conv => arg 2; arg 2; arg 1; arg 2; arg 2; arg 1; whnf
  conv => arg 2; arg 2; arg 1; arg 2; arg 2; arg 2; arg 1; whnf
  conv => arg 2; arg 2; arg 1; arg 2; arg 2; arg 2; arg 2; arg 1; arg 1; whnf
  go_wp2_with fail
  rw [← HW3.out.1, ← HW3.out.2]
  refine HSM.out.mono ?_
  rintro e w4 ⟨hsm, hb4⟩
  obtain ⟨bb, rfl, hb60⟩ := hsm.out
  have HB60 := Lib.hid hb60
  have HST4 := Lib.hid (HST.out.below hb4)
  have hoc := HST4.out.cells
  rw [HS.out] at hoc
  clear hsm hb60 hb4 HSM HST o0 o1 o2 o3 ol q0 q1 q2 q3
  obtain ⟨o0, o1, o2, o3, ol⟩ := hoc
  cases bb with
  | false =>
    go_wp2_with fail
    exact HR.out _ _ rfl rfl rfl HST4.out.low
  | true =>
    go_wp2_with fail
    rename_i K1 hK1 K2 hK2
    refine sw_open rfl rfl ?_
    have hJ := HJ.out
    refine sw_all _ w w4 g r ob c L C a _ HST4.out (by omega) (by omega) hJ.2.1 (HB60.out (by trivial)) rfl rfl rfl rfl rfl rfl ?_
    intro a1 w1 L1 C1 c1 z hk1 hc1 hC1 hS1
    refine hK2 a1 w1 ?_
    obtain ⟨hd, hsz, k1, k5, k6, k7, k8, k9, k10⟩ := hk1
    rw [open_act a1 hd hsz]
    refine tail_all (fun n => a1.tmps.getD n undef) w w1 g r ob c1 z L1 C1 a _ hS1 k5 k6 k8 k9 k10 ?_
    intro a2 w2 hk2 hS2
    refine hK1 a2 w2 ?_
    obtain ⟨hd2, hsz2, m1, m5, m6, m7, m8, m9, m10⟩ := hk2
    rw [open_act a2 hd2 hsz2]
    refine next_round (fun n => a2.tmps.getD n undef) w2 _ _ _ j (by omega) Q (m1.trans k1) m5 m6 (m7.trans k7) ?_
    intro a4 hH
    exact HQ.out a4 w2 c1 L1 C1 hH hS2.has (by omega) (by omega)
theorem loop_act (w wr : World) (g r : Nat) (A : Option Addr) (cap : Nat) (l : List St14) (hl : l.length ≤ 120)
    (h3 : ∀ i (h : i < l.length), ∃ b o, A = some ⟨b, o, none⟩ ∧ b < w.heap.size ∧ ∀ k u, (enc14 l[i])[k]? = some u → w.cell? ⟨b, o + i * 4 + k, none⟩ = some u)
    (hok : ∀ x ∈ l, Good14 w x) (hA : Has (BN g r 0 [] [] [] []) w wr) (Q : Exit → Act → World → Prop) (a0 : Act) (hH : Head (.slice A l.length cap) (.pointer (some ⟨g, 0, none⟩)) (.pointer (some ⟨r, 0, none⟩)) (.int .i64 (0 : Nat)) a0)
    (hQ : ∀ a' w' c L C, Head (.slice A l.length cap) (.pointer (some ⟨g, 0, none⟩)) (.pointer (some ⟨r, 0, none⟩)) (.int .i64 l.length) a' → Has (BN g r c L C L C) w w' → Q (.exit 0) a' w')
    (hR : ∀ a' w', a'.defers = [] → a'.tmps.size = 264 → a'.tmps.getD 4 undef = .bool true → Below w.heap.size w w' → Q .ret a' w') :
    Code.wp Try.prog (.loop bodyL) Q a0 wr := by
  refine wp_loop (fun a' w' => ∃ (j c : Nat) (L : List Pk) (C : List (Int × Int)), j ≤ l.length ∧ c ≤ j ∧ C.length ≤ j ∧ Head (.slice A l.length cap) (.pointer (some ⟨g, 0, none⟩)) (.pointer (some ⟨r, 0, none⟩)) (.int .i64 j) a' ∧ Has (BN g r c L C L C) w w') (fun a' _ => l.length - (intOf (a'.tmps.getD 7 undef)).toNat) ⟨0, 0, [], [], by omega, by omega, by simp, hH, hA⟩ ?_
  rintro a' w' ⟨j, c, L, C, hj, hc, hC, hH', hA'⟩
  obtain ⟨hd, hsz, g1, g5, g6, g7⟩ := hH'
  have hm : l.length - (intOf (a'.tmps.getD 7 undef)).toNat = l.length - j := by rw [g7]; simp [intOf]
  simp only [hm]
  rw [open_act a' hd hsz]
  rcases Nat.lt_or_ge j l.length with hlt | hge
  · refine body_round (fun n => a'.tmps.getD n undef) w w' g r c L C A cap l j hlt hl h3 hok hA' hc hC _ g1 g5 g6 g7 ?_ hR
    intro a'' w'' c' L' C' hH'' hA'' hc'' hC''
    refine ⟨⟨j + 1, c', L', C', hlt, hc'', hC'', hH'', hA''⟩, ?_⟩
    rw [hH''.2.2.2.2.2]
    simp [intOf]
    omega
  · obtain rfl : j = l.length := by omega
    exact last_round (fun n => a'.tmps.getD n undef) w' A l.length cap _ _ _ g1 g5 g6 g7 (fun a'' h'' => hQ a'' w' c L C h'' hA')
end Go.Proofs.Ytkfbljbhdjnggaa
