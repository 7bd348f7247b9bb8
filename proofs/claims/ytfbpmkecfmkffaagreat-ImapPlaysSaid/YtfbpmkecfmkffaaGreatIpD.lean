/- ImapPlays' round, whole, and its loop. -/
import Derived.Test.YtfbpmkecfmkffaaGreatIpC
namespace Go.Proofs.YtfbpmkecfmkffaaGreat
open Go Go.RowKit Go.ChangeShapes Go.WideShapes Go.ChangeAt SpanP PartP ImapP
set_option maxRecDepth 1000000
set_option maxHeartbeats 4000000
set_option linter.unusedSimpArgs false

theorem frame_eq (f : Nat → Value) : frame f = ((List.range 208).map f).toArray := by kernel_rfl
/-- A frame is told by its slots. -/
theorem open_frame (t : Array Value) (h : t.size = 208) : t = frame fun n => t.getD n undef := by
  rw [frame_eq]
  refine Array.ext (by simp [h]) fun i h1 h2 => ?_
  simp [Array.getD_eq_getD_getElem?, h1]
theorem open_act (a : Act) (hd : a.defers = []) (h : a.tmps.size = 208) : a = ⟨frame fun n => a.tmps.getD n undef, []⟩ := by
  obtain ⟨t, d⟩ := a
  simp only at hd h ⊢
  rw [hd, ← open_frame t h]
/-- What stands at a round's head. -/
structure StH (w wx : World) (mb kb : Nat) (rv : Value) (l : List Pt) (nP nS : Nat) : Prop where
  map : MapAtI wx mb l
  ref : QRow wx 0 rv l
  book : ∃ N, Bk wx kb w.heap.size nP nS N
  mine : w.heap.size ≤ mb
  low : Below w.heap.size w wx
theorem StI.head {w wx : World} {mb kb ob nP nS : Nat} {rv : Value} {l : List Pt} {a : Op7} (h : StI w wx mb kb ob rv l l nP nS a) : StH w wx mb kb rv l nP nS := ⟨h.map, h.ref, h.book, h.mine, h.low⟩
theorem StH.open_ {w wx : World} {mb kb nP nS : Nat} {rv : Value} {l : List Pt} (h : StH w wx mb kb rv l nP nS) (a : Op7) : StI w (wx.alloc (.cells (opC a) 52)) mb kb wx.heap.size rv l l nP nS a :=
  have hb' : Below wx.heap.size wx (wx.alloc (.cells (opC a) 52)) := (Below.refl _ _).alloc (Nat.le_refl _) _
  ⟨h.map.below hb', h.ref.below hb', h.map.norm, h.book.imp fun _ h => h.below hb', h.mine, h.low.trans (hb'.mono h.low.size), Sits.fresh wx _ _⟩
/-- What a round asks of a frame. -/
def Head (v1 v2 v7 v8 v9 v10 : Value) (a' : Act) : Prop :=
  a'.defers = [] ∧ a'.tmps.size = 208 ∧ a'.tmps.getD 1 undef = v1 ∧ a'.tmps.getD 2 undef = v2 ∧ a'.tmps.getD 7 undef = v7 ∧ a'.tmps.getD 8 undef = v8 ∧ a'.tmps.getD 9 undef = v9 ∧ a'.tmps.getD 10 undef = v10
/-- The round ends: the next one's number. -/
theorem next_round (f : Nat → Value) (wr : World) (v1 v2 v7 v8 v9 : Value) (j : Nat) (hj : (j : Int) < 9223372036854775807) (Q : Exit → Act → World → Prop) (h1 : f 1 = v1) (h2 : f 2 = v2) (h7 : f 7 = v7) (h8 : f 8 = v8) (h9 : f 9 = v9) (h10 : f 10 = .int .i64 j)
    (hQ : ∀ a', Head v1 v2 v7 v8 v9 (.int .i64 (j + 1 : Nat)) a' → Q .normal a' wr) : Code.wp Tryz.prog nextL Q ⟨frame f, []⟩ wr := by
  have e1 : IntKind.i64.wrap ((j : Int) + 1) = ((j + 1 : Nat) : Int) := by rw [IntWalk.i64_in _ (by omega)]; omega
  have HQ := Lib.hid hQ
  clear hQ
  subst h1 h2 h7 h8 h9
  unfold frame
  rw [h10]
  clear h10
  conv => arg 2; whnf
  go_wp2_with fail
  exact HQ.out _ ⟨rfl, rfl, rfl, rfl, rfl, rfl, rfl, rfl⟩
/-- No more rounds. -/
theorem last_round (f : Nat → Value) (wr : World) (A : Option Addr) (n cap : Nat) (v2 v7 v8 v9 : Value) (Q : Exit → Act → World → Prop) (h1 : f 1 = .slice A n cap) (h2 : f 2 = v2) (h7 : f 7 = v7) (h8 : f 8 = v8) (h9 : f 9 = v9) (h10 : f 10 = .int .i64 n)
    (hQ : ∀ a', Head (.slice A n cap) v2 v7 v8 v9 (.int .i64 n) a' → Q (.exit 0) a' wr) : Code.wp Tryz.prog bodyL Q ⟨frame f, []⟩ wr := by
  have HQ := Lib.hid hQ
  clear hQ
  subst h2 h7 h8 h9
  unfold frame
  rw [h1, h10]
  clear h1 h10
  rw [body_split]
  conv => arg 2; arg 1; whnf
  go_wp2_with fail
  exact HQ.out _ ⟨rfl, rfl, rfl, rfl, rfl, rfl, rfl, rfl⟩
/-- The switch, whatever the call is. -/
theorem sw_all (f : Nat → Value) (w w3 : World) (mb kb ob : Nat) (rv : Value) (l : List Pt) (nP nS : Nat) (a : Op7) (Q : Exit → Act → World → Prop) (hST : StI w w3 mb kb ob rv l l nP nS a) (hl : l.length ≤ 200) (ht : a.s.2 ≤ top)
    (h7 : f 7 = .pointer (some ⟨mb, 0, none⟩)) (h8 : f 8 = rv) (h11 : f 11 = .pointer (some ⟨ob, 0, none⟩)) (h12 : f 12 = .bool (decide (Ok a.s))) (h49 : f 49 = .int .i64 a.k)
    (hQ : ∀ a' w' rv' l', Kept7 (f 1) (f 2) (f 9) (f 10) rv' mb ob a' → l'.length ≤ l.length + 2 → StI w w' mb kb ob rv' l' l' nP nS a → Q .normal a' w') :
    Code.wp Tryz.prog swL Q ⟨frame f, []⟩ w3 := by
  by_cases k1 : a.k = 1
  · exact sw_set f w w3 mb kb ob rv l nP nS a Q hST hl ht h7 h8 h11 h12 h49 hQ k1
  by_cases k2 : a.k = 2
  · exact sw_clear f w w3 mb kb ob rv l nP nS a Q hST hl ht h7 h8 h11 h12 h49 hQ k2
  exact sw_swap f w w3 mb kb ob rv l nP nS a Q hST hl ht h7 h8 h11 h12 h49 hQ k1 k2
theorem sw_open {Q : Exit → Act → World → Prop} {a : Act} {w : World} (hd : a.defers = []) (hs : a.tmps.size = 208) (h : Code.wp Tryz.prog swL Q ⟨frame fun n => a.tmps.getD n undef, []⟩ w) : Code.wp Tryz.prog swL Q a w := by
  rw [open_act a hd hs]
  exact h
/-- Behind the switch. -/
theorem tail_all (f : Nat → Value) (w w3 : World) (mb kb ob : Nat) (rv : Value) (l : List Pt) (nP nS : Nat) (c : Int) (a : Op7) (Q : Exit → Act → World → Prop) (hST : StI w w3 mb kb ob rv l l nP nS a) (hl : l.length ≤ 200) (hP : nP + 1 < 250) (hS : nS < 250)
    (h2 : f 2 = .int .i64 c) (h7 : f 7 = .pointer (some ⟨mb, 0, none⟩)) (h8 : f 8 = rv) (h9 : f 9 = .pointer (some ⟨kb, 0, none⟩)) (h11 : f 11 = .pointer (some ⟨ob, 0, none⟩))
    (hQ : ∀ a' w', Kept7 (f 1) (.int .i64 c) (.pointer (some ⟨kb, 0, none⟩)) (f 10) rv mb ob a' → StI w w' mb kb ob rv l l (nP + 2) (nS + 1) a → Q .normal a' w') :
    Code.wp Tryz.prog tailL Q ⟨frame f, []⟩ w3 := by
  refine tail_one f w w3 mb kb ob rv l nP nS a Q hST hl h7 h11 ?_
  rintro a1 w1 xa xb xc B ⟨⟨hd, hsz, k1, k2, k7, k8, k9, k10, k11⟩, k16, k17, k18⟩ hT na nb nc nab
  rw [open_act a1 hd hsz]
  refine tail_two (fun n => a1.tmps.getD n undef) w w1 mb kb ob rv xa xb xc l nP nS B a Q hT hl hP hS na nb nc nab k7 (k9.trans h9) k11 k16 k17 k18 ?_
  rintro a2 w2 N ⟨⟨hd2, hsz2, m1, m2, m7, m8, m9, m10, m11⟩, m16, m17, m18⟩ hT2
  rw [open_act a2 hd2 hsz2]
  refine tail_three (fun n => a2.tmps.getD n undef) w w2 mb kb ob rv xa xb xc l (nP + 2) (nS + 1) N c a Q hT2 hl (m2.trans (k2.trans h2)) m7 (m8.trans (k8.trans h8)) m9 m11 m16 m17 m18 ?_
  rintro a3 w3 ⟨hd3, hsz3, n1, n2, n7, n8, n9, n10, n11⟩ hS3
  exact hQ a3 w3 ⟨hd3, hsz3, n1.trans (m1.trans k1), n2, n7, n8, n9, n10.trans (m10.trans k10), n11⟩ hS3
theorem body_round (f : Nat → Value) (w wr : World) (mb kb : Nat) (rv : Value) (L : List Pt) (nP nS : Nat) (c : Int) (A : Option Addr) (cap : Nat) (l : List Op7) (j : Nat) (hj : j < l.length) (hl : l.length ≤ 80)
    (h3 : ∀ i (hi : i < l.length), ∃ b o, A = some ⟨b, o, none⟩ ∧ b < w.heap.size ∧ w.cell? ⟨b, o + i * 5, none⟩ = some (.int .i64 l[i].k) ∧ w.cell? ⟨b, o + i * 5 + 1, none⟩ = some (.int .i64 l[i].v) ∧ w.cell? ⟨b, o + i * 5 + 2, none⟩ = some (.int .i64 l[i].w) ∧
      w.cell? ⟨b, o + i * 5 + 3, none⟩ = some (.int .i64 l[i].s.1) ∧ w.cell? ⟨b, o + i * 5 + 4, none⟩ = some (.int .i64 l[i].s.2))
    (hok : ∀ x ∈ l, goodO x) (hA : StH w wr mb kb rv L nP nS) (hL : L.length ≤ 2 * j) (hP : nP = 2 * j) (hS : nS = j) (Q : Exit → Act → World → Prop)
    (h1 : f 1 = .slice A l.length cap) (h2 : f 2 = .int .i64 c) (h7 : f 7 = .pointer (some ⟨mb, 0, none⟩)) (h8 : f 8 = rv) (h9 : f 9 = .pointer (some ⟨kb, 0, none⟩)) (h10 : f 10 = .int .i64 j)
    (hQ : ∀ a' w' rv' L', Head (.slice A l.length cap) (.int .i64 c) (.pointer (some ⟨mb, 0, none⟩)) rv' (.pointer (some ⟨kb, 0, none⟩)) (.int .i64 (j + 1 : Nat)) a' → StH w w' mb kb rv' L' (nP + 2) (nS + 1) → L'.length ≤ 2 * (j + 1) → Q .normal a' w') :
    Code.wp Tryz.prog bodyL Q ⟨frame f, []⟩ wr := by
  obtain ⟨b, o, rfl, hbw, c0, c1, c2, c3, c4⟩ := h3 j hj
  obtain ⟨a, ha⟩ : ∃ a, a = l[j] := ⟨_, rfl⟩
  rw [← ha] at c0 c1 c2 c3 c4
  have hgood := hok l[j] (List.getElem_mem hj)
  rw [← ha] at hgood
  have q0 := (hA.low.cell (p := ⟨b, o + j * 5, none⟩) hbw).trans c0
  have q1 := (hA.low.cell (p := ⟨b, o + j * 5 + 1, none⟩) hbw).trans c1
  have q2 := (hA.low.cell (p := ⟨b, o + j * 5 + 2, none⟩) hbw).trans c2
  have q3 := (hA.low.cell (p := ⟨b, o + j * 5 + 3, none⟩) hbw).trans c3
  have q4 := (hA.low.cell (p := ⟨b, o + j * 5 + 4, none⟩) hbw).trans c4
  have d3 : decide ((j : Int) < (l.length : Int)) = true := by simp; omega
  have hjn : (j : Int) < (l.length : Int) := by omega
  have hop := hA.open_ a
  have hopc : opC a = #[.int .i64 a.k, .int .i64 a.v, .int .i64 a.w, .int .i64 a.s.1, .int .i64 a.s.2] := rfl
  rw [hopc] at hop
  have hval : ∀ W : World, Calls Tryz.prog 6 #[.agg #[.int .i64 a.s.1, .int .i64 a.s.2]] W fun e w' => e = .returned (.bool (decide (Ok a.s))) ∧ ∃ q os, w' = Sort.grow (W.drewN q) os := refvalid_any a.s
  obtain ⟨g, hg⟩ : ∃ g, g = decide (Ok a.s) := ⟨_, rfl⟩
  rw [← hg] at hval
  obtain ⟨w3, hw3⟩ : ∃ w3, w3 = wr.alloc (.cells #[.int .i64 a.k, .int .i64 a.v, .int .i64 a.w, .int .i64 a.s.1, .int .i64 a.s.2] 52) := ⟨_, rfl⟩
  obtain ⟨ob, hob⟩ : ∃ ob, ob = wr.heap.size := ⟨_, rfl⟩
  rw [← hw3, ← hob] at hop
  have HST := Lib.hid hop
  obtain ⟨o0, o1, o2, o3, o4⟩ := hop.cells
  have HVAL := Lib.hid hval
  have HG := Lib.hid hg
  have HJ := Lib.hid (And.intro hj (And.intro hL (And.intro hgood (And.intro hl (And.intro hP hS)))))
  have HQ := Lib.hid hQ
  clear hj hL hgood hok hbw c0 c1 c2 c3 c4 ha h3 hQ hl hA hop hopc hval hg hP hS
  unfold frame
  rw [h1, h2, h7, h8, h9, h10]
  clear h1 h2 h7 h8 h9 h10
  rw [body_split]
  rw [hw3, hob] at o0 o1 o2 o3 o4
  conv => arg 2; arg 1; whnf
  conv => arg 2; arg 2; arg 1; arg 2; arg 1; whnf
  conv => arg 2; arg 2; arg 1; arg 2; arg 2; arg 1; whnf
  conv => arg 2; arg 2; arg 1; arg 2; arg 2; arg 2; arg 1; arg 1; whnf
  go_wp2_with fail
  rw [← hw3, ← hob]
  clear hw3 hob o0 o1 o2 o3 o4 q0 q1 q2 q3 q4
  refine (HVAL.out _).mono ?_
  rintro e w4 ⟨rfl, hgr⟩
  have H4 := Lib.hid (HST.out.below (grown_below hgr))
  obtain ⟨o0, o1, o2, o3, o4⟩ := H4.out.cells
  clear hgr
  go_wp2_with fail
  rename_i K1 hK1 K2 hK2
  refine sw_open rfl rfl ?_
  have hJ := HJ.out
  refine sw_all _ w w4 mb kb ob rv L nP nS a _ H4.out (by omega) (by have := hJ.2.2.1.2.2.2.2.2; unfold top; omega) rfl rfl rfl (congrArg Value.bool HG.out) rfl ?_
  intro a1 w1 rv1 L1 hk1 hL1 hS1
  refine hK2 a1 w1 ?_
  obtain ⟨hd, hsz, k1, k2, k7, k8, k9, k10, k11⟩ := hk1
  rw [open_act a1 hd hsz]
  refine tail_all (fun n => a1.tmps.getD n undef) w w1 mb kb ob rv1 L1 nP nS c a _ hS1 (by omega) (by omega) (by omega) k2 k7 k8 k9 k11 ?_
  intro a2 w2 hk2 hS2
  refine hK1 a2 w2 ?_
  obtain ⟨hd2, hsz2, m1, m2, m7, m8, m9, m10, m11⟩ := hk2
  rw [open_act a2 hd2 hsz2]
  refine next_round (fun n => a2.tmps.getD n undef) w2 _ _ _ _ _ j (by omega) Q (m1.trans k1) m2 m7 m8 m9 (m10.trans k10) ?_
  intro a4 hH
  exact HQ.out a4 w2 rv1 L1 hH hS2.head (by omega)
theorem loop_act (w wr : World) (mb kb : Nat) (rv : Value) (c : Int) (A : Option Addr) (cap : Nat) (l : List Op7) (hl : l.length ≤ 80)
    (h3 : ∀ i (hi : i < l.length), ∃ b o, A = some ⟨b, o, none⟩ ∧ b < w.heap.size ∧ w.cell? ⟨b, o + i * 5, none⟩ = some (.int .i64 l[i].k) ∧ w.cell? ⟨b, o + i * 5 + 1, none⟩ = some (.int .i64 l[i].v) ∧ w.cell? ⟨b, o + i * 5 + 2, none⟩ = some (.int .i64 l[i].w) ∧
      w.cell? ⟨b, o + i * 5 + 3, none⟩ = some (.int .i64 l[i].s.1) ∧ w.cell? ⟨b, o + i * 5 + 4, none⟩ = some (.int .i64 l[i].s.2))
    (hok : ∀ x ∈ l, goodO x) (hA : StH w wr mb kb rv [] 0 0) (Q : Exit → Act → World → Prop) (a0 : Act) (hH : Head (.slice A l.length cap) (.int .i64 c) (.pointer (some ⟨mb, 0, none⟩)) rv (.pointer (some ⟨kb, 0, none⟩)) (.int .i64 0) a0)
    (hQ : ∀ a' w' nP nS, a'.defers = [] → a'.tmps.size = 208 → a'.tmps.getD 9 undef = .pointer (some ⟨kb, 0, none⟩) → (∃ N, Bk w' kb w.heap.size nP nS N) → Below w.heap.size w w' → Q (.exit 0) a' w') :
    Code.wp Tryz.prog (.loop bodyL) Q a0 wr := by
  refine wp_loop (fun a' w' => ∃ (j : Nat) (rv : Value) (L : List Pt) (nP nS : Nat), j ≤ l.length ∧ L.length ≤ 2 * j ∧ nP = 2 * j ∧ nS = j ∧ Head (.slice A l.length cap) (.int .i64 c) (.pointer (some ⟨mb, 0, none⟩)) rv (.pointer (some ⟨kb, 0, none⟩)) (.int .i64 j) a' ∧ StH w w' mb kb rv L nP nS) (fun a' _ => l.length - (intOf (a'.tmps.getD 10 undef)).toNat) ⟨0, rv, [], 0, 0, Nat.zero_le _, by simp, rfl, rfl, hH, hA⟩ ?_
  rintro a' w' ⟨j, rv, L, nP, nS, hj, hL, hP, hS, hH', hA'⟩
  obtain ⟨hd, hsz, g1, g2, g7, g8, g9, g10⟩ := hH'
  have hm : l.length - (intOf (a'.tmps.getD 10 undef)).toNat = l.length - j := by rw [g10]; simp [intOf]
  simp only [hm]
  rw [open_act a' hd hsz]
  rcases Nat.lt_or_ge j l.length with hlt | hge
  · refine body_round (fun n => a'.tmps.getD n undef) w w' mb kb rv L nP nS c A cap l j hlt hl h3 hok hA' hL hP hS _ g1 g2 g7 g8 g9 g10 ?_
    intro a'' w'' rv' L' hH'' hA'' hL''
    refine ⟨⟨j + 1, rv', L', nP + 2, nS + 1, hlt, hL'', by omega, by omega, hH'', hA''⟩, ?_⟩
    rw [hH''.2.2.2.2.2.2.2]
    simp [intOf]
    omega
  · obtain rfl : j = l.length := by omega
    exact last_round (fun n => a'.tmps.getD n undef) w' A l.length cap _ _ _ _ _ g1 g2 g7 g8 g9 g10 (fun a'' h'' => hQ a'' w' nP nS h''.1 h''.2.1 h''.2.2.2.2.2.2.1 hA'.book hA'.low)
end Go.Proofs.YtfbpmkecfmkffaaGreat
