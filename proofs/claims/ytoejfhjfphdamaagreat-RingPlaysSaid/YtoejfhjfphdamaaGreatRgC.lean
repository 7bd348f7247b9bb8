/- RingPlays' round, whole, and its loop. -/
import Derived.Test.YtoejfhjfphdamaaGreatRgB
namespace Go.Proofs.YtoejfhjfphdamaaGreat
open Go Go.RowKit Go.ChangeShapes Go.WideShapes Go.ChangeAt
set_option maxRecDepth 1000000
set_option maxHeartbeats 4000000
set_option linter.unusedSimpArgs false

theorem frame_eq (f : Nat → Value) : frame f = ((List.range 247).map f).toArray := by kernel_rfl
/-- A frame is told by its slots. -/
theorem open_frame (t : Array Value) (h : t.size = 247) : t = frame fun n => t.getD n undef := by
  rw [frame_eq]
  refine Array.ext (by simp [h]) fun i h1 h2 => ?_
  simp [Array.getD_eq_getD_getElem?, h1]
theorem open_act (a : Act) (hd : a.defers = []) (h : a.tmps.size = 247) : a = ⟨frame fun n => a.tmps.getD n undef, []⟩ := by
  obtain ⟨t, d⟩ := a
  simp only at hd h ⊢
  rw [hd, ← open_frame t h]
def blockS : Code → Code
  | .block _ c => c
  | c => c
/-- The piece behind the head. -/
noncomputable def inL : Code := blockS (leftS (rightS bodyL))
noncomputable def nextL : Code := rightS (rightS bodyL)
theorem body_split : bodyL = .seq (leftS bodyL) (.seq (.block 1 (.seq (leftS inL) (.seq (leftS (rightS inL)) (.seq (leftS (rightS (rightS inL))) (.seq (.seq (leftS (leftS (rightS (rightS (rightS inL))))) (.block 2 swL)) tailL))))) nextL) := by kernel_rfl
/-- What stands at a round's head. -/
structure StH (w wx : World) (rp rg kb m : Nat) (L : List Int) (xv : Value) (ks : List (Option Nat × Nat)) (ts : List Value) : Prop where
  ring : RingI wx rp rg m L
  row : IRow wx w.heap.size xv L
  xg : ∀ k, xv.ownBlock = some k → k ≠ rg
  book : BookAt wx kb w.heap.size ks ts
  apart : NotK ks ts rg
  mine : w.heap.size ≤ rp ∧ w.heap.size ≤ rg
  low : Below w.heap.size w wx
theorem StR.head {w wx : World} {rp rg kb ob m : Nat} {L : List Int} {xv : Value} {ks : List (Option Nat × Nat)} {ts : List Value} {a : OpR} (h : StR w wx rp rg kb ob m L L xv ks ts a) : StH w wx rp rg kb m L xv ks ts := ⟨h.ring, h.row, h.xg, h.book, h.apart, h.mine, h.low⟩
theorem StH.open_ {w wx : World} {rp rg kb m : Nat} {L : List Int} {xv : Value} {ks : List (Option Nat × Nat)} {ts : List Value} (h : StH w wx rp rg kb m L xv ks ts) (a : OpR) : StR w (wx.alloc (.cells (opC a) 49)) rp rg kb wx.heap.size m L L xv ks ts a :=
  have hb : Below wx.heap.size wx (wx.alloc (.cells (opC a) 49)) := (Below.refl _ _).alloc (Nat.le_refl _) _
  ⟨h.ring.below hb, h.row.below hb, h.xg, h.book.keep hb, h.apart, h.mine, h.low.trans (hb.mono h.low.size), Sits.fresh wx _ _⟩
/-- What a round asks of a frame. -/
def Head (v2 v7 v8 v9 v10 v11 : Value) (a' : Act) : Prop :=
  a'.defers = [] ∧ a'.tmps.size = 247 ∧ a'.tmps.getD 2 undef = v2 ∧ a'.tmps.getD 7 undef = v7 ∧ a'.tmps.getD 8 undef = v8 ∧ a'.tmps.getD 9 undef = v9 ∧ a'.tmps.getD 10 undef = v10 ∧ a'.tmps.getD 11 undef = v11
/-- The round ends: the next one's number. -/
theorem next_round (f : Nat → Value) (wr : World) (v2 v7 v8 v9 v10 : Value) (j : Nat) (hj : (j : Int) < 9223372036854775807) (Q : Exit → Act → World → Prop) (h2 : f 2 = v2) (h7 : f 7 = v7) (h8 : f 8 = v8) (h9 : f 9 = v9) (h10 : f 10 = v10) (h11 : f 11 = .int .i64 j)
    (hQ : ∀ a', Head v2 v7 v8 v9 v10 (.int .i64 (j + 1 : Nat)) a' → Q .normal a' wr) : Code.wp Tryz.prog nextL Q ⟨frame f, []⟩ wr := by
  have e1 : IntKind.i64.wrap ((j : Int) + 1) = ((j + 1 : Nat) : Int) := by rw [IntWalk.i64_in _ (by omega)]; omega
  have HQ := Lib.hid hQ
  clear hQ
  subst h2 h7 h8 h9 h10
  unfold frame
  rw [h11]
  clear h11
  conv => arg 2; whnf
  go_wp2_with fail
  exact HQ.out _ ⟨rfl, rfl, rfl, rfl, rfl, rfl, rfl, rfl⟩
/-- No more rounds. -/
theorem last_round (f : Nat → Value) (wr : World) (A : Option Addr) (n cap : Nat) (v7 v8 v9 v10 : Value) (Q : Exit → Act → World → Prop) (h2 : f 2 = .slice A n cap) (h7 : f 7 = v7) (h8 : f 8 = v8) (h9 : f 9 = v9) (h10 : f 10 = v10) (h11 : f 11 = .int .i64 n)
    (hQ : ∀ a', Head (.slice A n cap) v7 v8 v9 v10 (.int .i64 n) a' → Q (.exit 0) a' wr) : Code.wp Tryz.prog bodyL Q ⟨frame f, []⟩ wr := by
  have HQ := Lib.hid hQ
  clear hQ
  subst h7 h8 h9 h10
  unfold frame
  rw [h2, h11]
  clear h2 h11
  rw [body_split]
  conv => arg 2; arg 1; whnf
  go_wp2_with fail
  exact HQ.out _ ⟨rfl, rfl, rfl, rfl, rfl, rfl, rfl, rfl⟩
/-- The switch, whatever the call is. -/
theorem sw_all (f : Nat → Value) (w w3 : World) (rp rg kb ob m : Nat) (L : List Int) (xv : Value) (ks : List (Option Nat × Nat)) (ts : List Value) (a : OpR) (Q : Exit → Act → World → Prop) (hST : StR w w3 rp rg kb ob m L L xv ks ts a) (hgood : OpR.Good w a) (h60 : a.l.length ≤ 60)
    (h7 : f 7 = .pointer (some ⟨rp, 0, none⟩)) (h8 : f 8 = .int .i64 (m : Int)) (h9 : f 9 = xv) (h12 : f 12 = .pointer (some ⟨ob, 0, none⟩)) (h13 : f 13 = .bool true) (h54 : f 54 = .int .i64 a.kind)
    (hQ : ∀ a' w' rg' L' xv', Kept (f 2) (f 10) (f 11) xv' rp m ob a' → StR w w' rp rg' kb ob m L' L' xv' ks ts a → Q .normal a' w') : Code.wp Tryz.prog swL Q ⟨frame f, []⟩ w3 := by
  by_cases k1 : a.kind = 1
  · exact sw_push f w w3 rp rg kb ob m L xv ks ts a Q hST h7 h8 h9 h12 h13 h54 hQ hgood h60 k1
  by_cases k2 : a.kind = 2
  · by_cases h0 : 0 < L.length
    · exact sw_pop_in f w w3 rp rg kb ob m L xv ks ts a Q hST h7 h8 h9 h12 h13 h54 hQ k2 h0
    · exact sw_pop_out f w w3 rp rg kb ob m L xv ks ts a Q hST h7 h8 h9 h12 h13 h54 hQ k2 h0
  by_cases k4 : a.kind = 4
  · by_cases h0 : a.n < 0
    · exact sw_set_low f w w3 rp rg kb ob m L xv ks ts a Q hST h7 h8 h9 h12 h13 h54 hQ k4 h0
    · by_cases h1 : (L.length : Int) ≤ a.n
      · exact sw_set_high f w w3 rp rg kb ob m L xv ks ts a Q hST h7 h8 h9 h12 h13 h54 hQ k4 (by omega) h1
      · exact sw_set_in f w w3 rp rg kb ob m L xv ks ts a Q hST h7 h8 h9 h12 h13 h54 hQ k4 a.n.toNat (by omega) (by omega)
  by_cases k5 : a.kind = 5
  · exact sw_drop f w w3 rp rg kb ob m L xv ks ts a Q hST h7 h8 h9 h12 h13 h54 hQ k5
  by_cases k6 : a.kind = 6
  · exact sw_clear f w w3 rp rg kb ob m L xv ks ts a Q hST h7 h8 h9 h12 h13 h54 hQ k6
  exact sw_other f w w3 rp rg kb ob m L xv ks ts a Q hST h7 h8 h9 h12 h13 h54 hQ k1 k2 k4 k5 k6
theorem sw_open {Q : Exit → Act → World → Prop} {a : Act} {w : World} (hd : a.defers = []) (hs : a.tmps.size = 247) (h : Code.wp Tryz.prog swL Q ⟨frame fun n => a.tmps.getD n undef, []⟩ w) : Code.wp Tryz.prog swL Q a w := by
  rw [open_act a hd hs]
  exact h
/-- Behind the switch. -/
theorem tail_all (f : Nat → Value) (w w3 : World) (rp rg kb ob m : Nat) (L : List Int) (xv : Value) (ks : List (Option Nat × Nat)) (ts : List Value) (a : OpR) (Q : Exit → Act → World → Prop) (hST : StR w w3 rp rg kb ob m L L xv ks ts a) (hks : ks.length < 250)
    (h7 : f 7 = .pointer (some ⟨rp, 0, none⟩)) (h8 : f 8 = .int .i64 (m : Int)) (h9 : f 9 = xv) (h10 : f 10 = .pointer (some ⟨kb, 0, none⟩)) (h12 : f 12 = .pointer (some ⟨ob, 0, none⟩)) (h13 : f 13 = .bool true)
    (hQ : ∀ a' w' x u, Kept (f 2) (.pointer (some ⟨kb, 0, none⟩)) (f 11) xv rp m ob a' → StR w w' rp rg kb ob m L L xv (ks ++ [x]) (ts ++ [u]) a → Q .normal a' w') : Code.wp Tryz.prog tailL Q ⟨frame f, []⟩ w3 := by
  by_cases h0 : a.n < 0
  · exact tail_low f w w3 rp rg kb ob m L xv ks ts a Q hST hks h7 h8 h9 h10 h12 h13 hQ h0
  · by_cases h1 : (L.length : Int) ≤ a.n
    · exact tail_high f w w3 rp rg kb ob m L xv ks ts a Q hST hks h7 h8 h9 h10 h12 h13 hQ (by omega) h1
    · exact tail_in f w w3 rp rg kb ob m L xv ks ts a Q hST hks h7 h8 h9 h10 h12 h13 hQ a.n.toNat (by omega) (by omega)
/-- A round, from its head to the next one's. -/
theorem body_round (f : Nat → Value) (w wr : World) (rp rg kb m : Nat) (L : List Int) (xv : Value) (ks : List (Option Nat × Nat)) (ts : List Value) (A : Option Addr) (cap : Nat) (l : List OpR) (j : Nat) (hj : j < l.length) (hl : l.length ≤ 100)
    (h3 : ∀ i (h : i < l.length), ∃ b o, A = some ⟨b, o, none⟩ ∧ b < w.heap.size ∧ ∀ k u, (opCells l[i])[k]? = some u → w.cell? ⟨b, o + i * 4 + k, none⟩ = some u)
    (hok : ∀ x ∈ l, OpR.Good w x) (hA : StH w wr rp rg kb m L xv ks ts) (hks : ks.length = j) (Q : Exit → Act → World → Prop) (h2 : f 2 = .slice A l.length cap) (h7 : f 7 = .pointer (some ⟨rp, 0, none⟩)) (h8 : f 8 = .int .i64 (m : Int)) (h9 : f 9 = xv) (h10 : f 10 = .pointer (some ⟨kb, 0, none⟩)) (h11 : f 11 = .int .i64 j)
    (hQ : ∀ a' w' rg' L' xv' ks' ts', Head (.slice A l.length cap) (.pointer (some ⟨rp, 0, none⟩)) (.int .i64 (m : Int)) xv' (.pointer (some ⟨kb, 0, none⟩)) (.int .i64 (j + 1 : Nat)) a' → StH w w' rp rg' kb m L' xv' ks' ts' → ks'.length = j + 1 → Q .normal a' w')
    (hR : ∀ a' w', a'.defers = [] → a'.tmps.size = 247 → a'.tmps.getD 6 undef = .bool true → Below w.heap.size w w' → Q .ret a' w') :
    Code.wp Tryz.prog bodyL Q ⟨frame f, []⟩ wr := by
  obtain ⟨b, o, rfl, hb, hcb⟩ := h3 j hj
  obtain ⟨a, ha⟩ : ∃ a, a = l[j] := ⟨_, rfl⟩
  rw [← ha] at hcb
  have hgood := hok l[j] (List.getElem_mem hj)
  rw [← ha] at hgood
  have q0 := (hA.low.cell (p := ⟨b, o + j * 4 + 0, none⟩) hb).trans (hcb 0 _ rfl)
  have q1 := (hA.low.cell (p := ⟨b, o + j * 4 + 1, none⟩) hb).trans (hcb 1 _ rfl)
  have q2 := (hA.low.cell (p := ⟨b, o + j * 4 + 2, none⟩) hb).trans (hcb 2 _ rfl)
  have q3 := (hA.low.cell (p := ⟨b, o + j * 4 + 3, none⟩) hb).trans (hcb 3 _ rfl)
  simp only [Nat.add_zero] at q0
  obtain ⟨Al, cl, hlv, hl1, hl2, -⟩ := hgood.2.2.2.2.one_
  rw [hlv] at q3
  have hal : (a.l.length : Int) ≤ 9223372036854775807 := by omega
  have d3 : decide ((j : Int) < (l.length : Int)) = true := by simp; omega
  have hjn : (j : Int) < (l.length : Int) := by omega
  have hop := hA.open_ a
  have hopc : opC a = #[.int .i64 a.kind, .int .i64 a.n, .int .i64 a.v, .slice Al a.l.length cl] := by unfold opC; rw [hlv]
  rw [hopc] at hop
  obtain ⟨w3, hw3⟩ : ∃ w3, w3 = wr.alloc (.cells #[.int .i64 a.kind, .int .i64 a.n, .int .i64 a.v, .slice Al a.l.length cl] 49) := ⟨_, rfl⟩
  obtain ⟨ob, hob⟩ : ∃ ob, ob = wr.heap.size := ⟨_, rfl⟩
  rw [← hw3, ← hob] at hop
  have HST := Lib.hid hop
  obtain ⟨o0, o1, o2, o3⟩ := hop.cells
  rw [hlv] at o3
  have HJ := Lib.hid (And.intro hj (And.intro hks (And.intro hgood hl)))
  have HQ := Lib.hid hQ
  have HR := Lib.hid hR
  clear hj hks hgood hok hb hcb ha h3 hQ hR hl hA hop hopc hlv hl1
  unfold frame
  rw [h2, h7, h8, h9, h10, h11]
  clear h2 h7 h8 h9 h10 h11
  rw [body_split]
  rw [hw3, hob] at o0 o1 o2 o3
  by_cases h60 : 60 < a.l.length
  · have e60 : decide ((60 : Int) < (a.l.length : Int)) = true := decide_eq_true (by omega)
    have e60n : decide (60 < a.l.length) = true := decide_eq_true h60
    clear h60
    conv => arg 2; arg 1; whnf
    conv => arg 2; arg 2; arg 1; arg 2; arg 1; whnf
    conv => arg 2; arg 2; arg 1; arg 2; arg 2; arg 1; whnf
    go_wp2_with fail
    rw [← hw3]
    exact HR.out _ _ rfl rfl rfl HST.out.low
  · have e60 : decide ((60 : Int) < (a.l.length : Int)) = false := decide_eq_false (by omega)
    have e60n : decide (60 < a.l.length) = false := decide_eq_false h60
    conv => arg 2; arg 1; whnf
    conv => arg 2; arg 2; arg 1; arg 2; arg 1; whnf
    conv => arg 2; arg 2; arg 1; arg 2; arg 2; arg 1; whnf
    conv => arg 2; arg 2; arg 1; arg 2; arg 2; arg 2; arg 1; whnf
    conv => arg 2; arg 2; arg 1; arg 2; arg 2; arg 2; arg 2; arg 1; arg 1; whnf
    go_wp2_with fail
    rw [← hw3, ← hob]
    rename_i K1 hK1 K2 hK2
    refine sw_open rfl rfl ?_
    have hJ := HJ.out
    refine sw_all _ w w3 rp rg kb ob m L xv ks ts a _ HST.out hJ.2.2.1 (by omega) rfl rfl rfl rfl rfl rfl ?_
    intro a1 w1 rg1 L1 xv1 hk1 hS1
    refine hK2 a1 w1 ?_
    obtain ⟨hd, hsz, k2, k7, k8, k9, k10, k11, k12, k13⟩ := hk1
    rw [open_act a1 hd hsz]
    refine tail_all (fun n => a1.tmps.getD n undef) w w1 rp rg1 kb ob m L1 xv1 ks ts a _ hS1 (by omega) k7 k8 k9 k10 k12 k13 ?_
    intro a2 w2 x u hk2 hS2
    refine hK1 a2 w2 ?_
    obtain ⟨hd2, hsz2, m2, m7, m8, m9, m10, m11, m12, m13⟩ := hk2
    rw [open_act a2 hd2 hsz2]
    refine next_round (fun n => a2.tmps.getD n undef) w2 _ _ _ _ _ j (by omega) Q (m2.trans k2) m7 m8 m9 m10 (m11.trans k11) ?_
    intro a4 hH
    exact HQ.out a4 w2 rg1 L1 xv1 (ks ++ [x]) (ts ++ [u]) hH hS2.head (by simp [hJ.2.1])
theorem loop_act (w wr : World) (rp rg kb m : Nat) (L : List Int) (xv : Value) (A : Option Addr) (cap : Nat) (l : List OpR) (hl : l.length ≤ 100)
    (h3 : ∀ i (h : i < l.length), ∃ b o, A = some ⟨b, o, none⟩ ∧ b < w.heap.size ∧ ∀ k u, (opCells l[i])[k]? = some u → w.cell? ⟨b, o + i * 4 + k, none⟩ = some u)
    (hok : ∀ x ∈ l, OpR.Good w x) (hA : StH w wr rp rg kb m L xv [] []) (Q : Exit → Act → World → Prop) (a0 : Act) (hH : Head (.slice A l.length cap) (.pointer (some ⟨rp, 0, none⟩)) (.int .i64 (m : Int)) xv (.pointer (some ⟨kb, 0, none⟩)) (.int .i64 0) a0)
    (hQ : ∀ a' w' ks ts, a'.defers = [] → a'.tmps.size = 247 → a'.tmps.getD 10 undef = .pointer (some ⟨kb, 0, none⟩) → BookAt w' kb w.heap.size ks ts → Below w.heap.size w w' → Q (.exit 0) a' w')
    (hR : ∀ a' w', a'.defers = [] → a'.tmps.size = 247 → a'.tmps.getD 6 undef = .bool true → Below w.heap.size w w' → Q .ret a' w') :
    Code.wp Tryz.prog (.loop bodyL) Q a0 wr := by
  refine wp_loop (fun a' w' => ∃ (j rg : Nat) (L : List Int) (xv : Value) (ks : List (Option Nat × Nat)) (ts : List Value), j ≤ l.length ∧ Head (.slice A l.length cap) (.pointer (some ⟨rp, 0, none⟩)) (.int .i64 (m : Int)) xv (.pointer (some ⟨kb, 0, none⟩)) (.int .i64 j) a' ∧ StH w w' rp rg kb m L xv ks ts ∧ ks.length = j) (fun a' _ => l.length - (intOf (a'.tmps.getD 11 undef)).toNat) ⟨0, rg, L, xv, [], [], Nat.zero_le _, hH, hA, rfl⟩ ?_
  rintro a' w' ⟨j, rg, L, xv, ks, ts, hj, hH', hA', hks⟩
  obtain ⟨hd, hsz, g2, g7, g8, g9, g10, g11⟩ := hH'
  have hm : l.length - (intOf (a'.tmps.getD 11 undef)).toNat = l.length - j := by rw [g11]; simp [intOf]
  simp only [hm]
  have g10' := g10
  have hd' := hd
  have hsz' := hsz
  rw [open_act a' hd hsz]
  rcases Nat.lt_or_ge j l.length with hlt | hge
  · refine body_round (fun n => a'.tmps.getD n undef) w w' rp rg kb m L xv ks ts A cap l j hlt hl h3 hok hA' hks _ g2 g7 g8 g9 g10 g11 ?_ hR
    intro a'' w'' rg' L' xv' ks' ts' hH'' hA'' hks''
    refine ⟨⟨j + 1, rg', L', xv', ks', ts', hlt, hH'', hA'', hks''⟩, ?_⟩
    rw [hH''.2.2.2.2.2.2.2]
    simp [intOf]
    omega
  · obtain rfl : j = l.length := by omega
    exact last_round (fun n => a'.tmps.getD n undef) w' A l.length cap _ _ _ _ _ g2 g7 g8 g9 g10 g11 (fun a'' h'' => hQ a'' w' ks ts h''.1 h''.2.1 h''.2.2.2.2.2.2.1 hA'.book hA'.low)
end Go.Proofs.YtoejfhjfphdamaaGreat
