/- HeapPlays' round, whole, and its loop. -/
import Derived.Test.YtfjpoadmbdjmnaaGreatHpE
namespace Go.Proofs.YtfjpoadmbdjmnaaGreat
open Go Go.RowKit Go.ChangeShapes Go.WideShapes Go.ChangeAt HeapP
set_option maxRecDepth 1000000
set_option maxHeartbeats 4000000
set_option linter.unusedSimpArgs false

theorem frame_eq (f : Nat → Value) : frame f = ((List.range 255).map f).toArray := by kernel_rfl
/-- A frame is told by its slots. -/
theorem open_frame (t : Array Value) (h : t.size = 255) : t = frame fun n => t.getD n undef := by
  rw [frame_eq]
  refine Array.ext (by simp [h]) fun i h1 h2 => ?_
  simp [Array.getD_eq_getD_getElem?, h1]
theorem open_act (a : Act) (hd : a.defers = []) (h : a.tmps.size = 255) : a = ⟨frame fun n => a.tmps.getD n undef, []⟩ := by
  obtain ⟨t, d⟩ := a
  simp only at hd h ⊢
  rw [hd, ← open_frame t h]
def blockS : Code → Code
  | .block _ c => c
  | c => c
/-- The piece behind the head. -/
noncomputable def inL : Code := blockS (leftS (rightS bodyL))
noncomputable def nextL : Code := rightS (rightS bodyL)
theorem body_split : bodyL = .seq (leftS bodyL) (.seq (.block 1 (.seq (leftS inL) (.seq (leftS (rightS inL)) (.seq (.seq (leftS (leftS (rightS (rightS inL)))) (.block 2 swL)) tailL)))) nextL) := by kernel_rfl
/-- What stands at a round's head. -/
structure StH (w wx : World) (hb rb kb c : Nat) (last : Int) (L : List (HeapP.It Int)) (ks : List (Option Nat × Nat)) (ts : List Value) : Prop where
  heap : HeapAtI wx hb w.heap.size c last L
  ref : RefAt wx rb w.heap.size last L
  book : BookAt wx kb w.heap.size ks ts
  low : Below w.heap.size w wx
theorem StP.head {w wx : World} {hb rb kb ob c : Nat} {last : Int} {L : List (HeapP.It Int)} {ks : List (Option Nat × Nat)} {ts : List Value} {a : OpH} (h : StP w wx hb rb kb ob c last L ks ts a) : StH w wx hb rb kb c last L ks ts := ⟨h.heap, h.ref, h.book, h.low⟩
theorem StH.open_ {w wx : World} {hb rb kb c : Nat} {last : Int} {L : List (HeapP.It Int)} {ks : List (Option Nat × Nat)} {ts : List Value} (h : StH w wx hb rb kb c last L ks ts) (a : OpH) : StP w (wx.alloc (.cells (opC a) 52)) hb rb kb wx.heap.size c last L ks ts a :=
  have hb' : Below wx.heap.size wx (wx.alloc (.cells (opC a) 52)) := (Below.refl _ _).alloc (Nat.le_refl _) _
  ⟨h.heap.below hb', h.ref.below hb', h.book.keep hb', h.low.trans (hb'.mono h.low.size), Sits.fresh wx _ _⟩
/-- What a round asks of a frame. -/
def Head (v1 v5 v6 v7 v8 : Value) (a' : Act) : Prop :=
  a'.defers = [] ∧ a'.tmps.size = 255 ∧ a'.tmps.getD 1 undef = v1 ∧ a'.tmps.getD 5 undef = v5 ∧ a'.tmps.getD 6 undef = v6 ∧ a'.tmps.getD 7 undef = v7 ∧ a'.tmps.getD 8 undef = v8
/-- The round ends: the next one's number. -/
theorem next_round (f : Nat → Value) (wr : World) (v1 v5 v6 v7 : Value) (j : Nat) (hj : (j : Int) < 9223372036854775807) (Q : Exit → Act → World → Prop) (h1 : f 1 = v1) (h5 : f 5 = v5) (h6 : f 6 = v6) (h7 : f 7 = v7) (h8 : f 8 = .int .i64 j)
    (hQ : ∀ a', Head v1 v5 v6 v7 (.int .i64 (j + 1 : Nat)) a' → Q .normal a' wr) : Code.wp Tryz.prog nextL Q ⟨frame f, []⟩ wr := by
  have e1 : IntKind.i64.wrap ((j : Int) + 1) = ((j + 1 : Nat) : Int) := by rw [IntWalk.i64_in _ (by omega)]; omega
  have HQ := Lib.hid hQ
  clear hQ
  subst h1 h5 h6 h7
  unfold frame
  rw [h8]
  clear h8
  conv => arg 2; whnf
  go_wp2_with fail
  exact HQ.out _ ⟨rfl, rfl, rfl, rfl, rfl, rfl, rfl⟩
/-- No more rounds. -/
theorem last_round (f : Nat → Value) (wr : World) (A : Option Addr) (n cap : Nat) (v5 v6 v7 : Value) (Q : Exit → Act → World → Prop) (h1 : f 1 = .slice A n cap) (h5 : f 5 = v5) (h6 : f 6 = v6) (h7 : f 7 = v7) (h8 : f 8 = .int .i64 n)
    (hQ : ∀ a', Head (.slice A n cap) v5 v6 v7 (.int .i64 n) a' → Q (.exit 0) a' wr) : Code.wp Tryz.prog bodyL Q ⟨frame f, []⟩ wr := by
  have HQ := Lib.hid hQ
  clear hQ
  subst h5 h6 h7
  unfold frame
  rw [h1, h8]
  clear h1 h8
  rw [body_split]
  conv => arg 2; arg 1; whnf
  go_wp2_with fail
  exact HQ.out _ ⟨rfl, rfl, rfl, rfl, rfl, rfl, rfl⟩
/-- The switch, whatever the call is. -/
theorem sw_all (f : Nat → Value) (w w3 : World) (hb rb kb ob c : Nat) (last : Int) (L : List (HeapP.It Int)) (ks : List (Option Nat × Nat)) (ts : List Value) (a : OpH) (Q : Exit → Act → World → Prop) (hST : StP w w3 hb rb kb ob c last L ks ts a) (hc : c ≤ 500000) (hlast : last ≤ 300000) (hg : OpH.Good a)
    (h5 : f 5 = .pointer (some ⟨hb, 0, none⟩)) (h6 : f 6 = .pointer (some ⟨rb, 0, none⟩)) (h9 : f 9 = .pointer (some ⟨ob, 0, none⟩)) (h10 : f 10 = .bool true) (h49 : f 49 = .int .i64 a.kind)
    (hQ : ∀ a' w' c' last' L', Kept (f 1) (f 7) (f 8) hb rb ob a' → c' ≤ c + 1 → last' ≤ last + 1 → StP w w' hb rb kb ob c' last' L' ks ts a → Q .normal a' w') : Code.wp Tryz.prog swL Q ⟨frame f, []⟩ w3 := by
  by_cases k1 : a.kind = 1
  · exact sw_put f w w3 hb rb kb ob c last L ks ts a Q hST hc hlast h5 h6 h9 h10 h49 hQ k1
  by_cases k2 : a.kind = 2
  · rcases L with _ | ⟨x, T⟩
    · exact sw_take_none f w w3 hb rb kb ob c last [] ks ts a Q hST hc hlast h5 h6 h9 h10 h49 hQ k2 rfl
    · by_cases hx : x.t ≤ a.n
      · exact sw_take_due f w w3 hb rb kb ob c last (x :: T) ks ts a Q hST hc hlast h5 h6 h9 h10 h49 hQ x T k2 rfl hx
      · exact sw_take_early f w w3 hb rb kb ob c last (x :: T) ks ts a Q hST hc hlast h5 h6 h9 h10 h49 hQ x T k2 rfl (by omega)
  exact sw_cancel f w w3 hb rb kb ob c last L ks ts a Q hST hc hlast h5 h6 h9 h10 h49 hQ k1 k2 hg.2.1
theorem sw_open {Q : Exit → Act → World → Prop} {a : Act} {w : World} (hd : a.defers = []) (hs : a.tmps.size = 255) (h : Code.wp Tryz.prog swL Q ⟨frame fun n => a.tmps.getD n undef, []⟩ w) : Code.wp Tryz.prog swL Q a w := by
  rw [open_act a hd hs]
  exact h
/-- Behind the switch. -/
theorem tail_all (f : Nat → Value) (w w3 : World) (hb rb kb ob c : Nat) (last : Int) (L : List (HeapP.It Int)) (ks : List (Option Nat × Nat)) (ts : List Value) (a : OpH) (Q : Exit → Act → World → Prop) (hST : StP w w3 hb rb kb ob c last L ks ts a) (hlast : last ≤ 1000) (hks : ks.length < 250) (hg : OpH.Good a)
    (h5 : f 5 = .pointer (some ⟨hb, 0, none⟩)) (h6 : f 6 = .pointer (some ⟨rb, 0, none⟩)) (h7 : f 7 = .pointer (some ⟨kb, 0, none⟩)) (h9 : f 9 = .pointer (some ⟨ob, 0, none⟩)) (h10 : f 10 = .bool true)
    (hQ : ∀ a' w' x u, Kept (f 1) (.pointer (some ⟨kb, 0, none⟩)) (f 8) hb rb ob a' → StP w w' hb rb kb ob c last L (ks ++ [x]) (ts ++ [u]) a → Q .normal a' w') :
    Code.wp Tryz.prog tailL Q ⟨frame f, []⟩ w3 := by
  have hlen := hST.heap.len
  have three : ∀ a' w', Kept (f 1) (f 7) (f 8) hb rb ob a' → StP w w' hb rb kb ob c last L ks ts a → Code.wp Tryz.prog tail3L Q a' w' := by
    intro a' w' hk hS
    obtain ⟨hd, hsz, k1, k5, k6, k7, k8, k9, k10⟩ := hk
    rw [open_act a' hd hsz]
    exact tail3 _ w w' hb rb kb ob c last L ks ts a Q hS (by omega) hks k5 k6 (k7.trans h7) k9 k10 (fun a2 w2 x u hk2 hS2 => hQ a2 w2 x u (by
      rw [k1, k8] at hk2
      exact hk2) hS2)
  have two : ∀ a' w', Kept (f 1) (f 7) (f 8) hb rb ob a' → StP w w' hb rb kb ob c last L ks ts a → Code.wp Tryz.prog tail2L Q a' w' := by
    intro a' w' hk hS
    obtain ⟨hd, hsz, k1, k5, k6, k7, k8, k9, k10⟩ := hk
    rw [open_act a' hd hsz]
    have hq : ∀ a2 w2, Kept (a'.tmps.getD 1 undef) (a'.tmps.getD 7 undef) (a'.tmps.getD 8 undef) hb rb ob a2 → StP w w2 hb rb kb ob c last L ks ts a → Code.wp Tryz.prog tail3L Q a2 w2 := by
      rw [k1, k7, k8]
      exact three
    rcases L with _ | ⟨x, T⟩
    · exact tail_first_none _ w w' hb rb kb ob c last [] ks ts a Q hS (by omega) k5 k6 k9 k10 hq rfl
    · exact tail_first_some _ w w' hb rb kb ob c last (x :: T) ks ts a Q hS (by omega) k5 k6 k9 k10 hq x T rfl
  by_cases hin : ∃ j, j < L.length ∧ (gt L j).id = a.v
  · obtain ⟨j, hj, hid⟩ := hin
    exact tail_at_in f w w3 hb rb kb ob c last L ks ts a Q hST (by omega) h5 h6 h9 h10 two j hj hid
  · refine tail_at_out f w w3 hb rb kb ob c last L ks ts a Q hST (by omega) h5 h6 h9 h10 two hg.2.2 fun y hy e => hin ?_
    obtain ⟨j, hj, rfl⟩ := List.getElem_of_mem hy
    exact ⟨j, hj, by rw [gt_elem L hj, e]⟩
/-- A round, from its head to the next one's. -/
theorem body_round (f : Nat → Value) (w wr : World) (hb rb kb c : Nat) (last : Int) (L : List (HeapP.It Int)) (ks : List (Option Nat × Nat)) (ts : List Value) (A : Option Addr) (cap : Nat) (l : List OpH) (j : Nat) (hj : j < l.length) (hl : l.length ≤ 150)
    (h3 : ∀ i (h : i < l.length), ∃ b o, A = some ⟨b, o, none⟩ ∧ b < w.heap.size ∧ ∀ k u, (opCells l[i])[k]? = some u → w.cell? ⟨b, o + i * 3 + k, none⟩ = some u)
    (hok : ∀ x ∈ l, OpH.Good x) (hA : StH w wr hb rb kb c last L ks ts) (hc : c ≤ 1000 + j) (hlast : last ≤ j) (hks : ks.length = j) (Q : Exit → Act → World → Prop) (h1 : f 1 = .slice A l.length cap) (h5 : f 5 = .pointer (some ⟨hb, 0, none⟩)) (h6 : f 6 = .pointer (some ⟨rb, 0, none⟩)) (h7 : f 7 = .pointer (some ⟨kb, 0, none⟩)) (h8 : f 8 = .int .i64 j)
    (hQ : ∀ a' w' c' last' L' ks' ts', Head (.slice A l.length cap) (.pointer (some ⟨hb, 0, none⟩)) (.pointer (some ⟨rb, 0, none⟩)) (.pointer (some ⟨kb, 0, none⟩)) (.int .i64 (j + 1 : Nat)) a' → StH w w' hb rb kb c' last' L' ks' ts' → c' ≤ 1000 + (j + 1) → last' ≤ (j + 1 : Nat) → ks'.length = j + 1 → Q .normal a' w') :
    Code.wp Tryz.prog bodyL Q ⟨frame f, []⟩ wr := by
  obtain ⟨b, o, rfl, hbw, hcb⟩ := h3 j hj
  obtain ⟨a, ha⟩ : ∃ a, a = l[j] := ⟨_, rfl⟩
  rw [← ha] at hcb
  have hgood := hok l[j] (List.getElem_mem hj)
  rw [← ha] at hgood
  have q0 := (hA.low.cell (p := ⟨b, o + j * 3 + 0, none⟩) hbw).trans (hcb 0 _ rfl)
  have q1 := (hA.low.cell (p := ⟨b, o + j * 3 + 1, none⟩) hbw).trans (hcb 1 _ rfl)
  have q2 := (hA.low.cell (p := ⟨b, o + j * 3 + 2, none⟩) hbw).trans (hcb 2 _ rfl)
  simp only [Nat.add_zero] at q0
  have d3 : decide ((j : Int) < (l.length : Int)) = true := by simp; omega
  have hjn : (j : Int) < (l.length : Int) := by omega
  have hop := hA.open_ a
  have hopc : opC a = #[.int .i64 a.kind, .int .i64 a.n, .int .i64 a.v] := rfl
  rw [hopc] at hop
  obtain ⟨w3, hw3⟩ : ∃ w3, w3 = wr.alloc (.cells #[.int .i64 a.kind, .int .i64 a.n, .int .i64 a.v] 52) := ⟨_, rfl⟩
  obtain ⟨ob, hob⟩ : ∃ ob, ob = wr.heap.size := ⟨_, rfl⟩
  rw [← hw3, ← hob] at hop
  have HST := Lib.hid hop
  obtain ⟨o0, o1, o2⟩ := hop.cells
  have HJ := Lib.hid (And.intro hj (And.intro hks (And.intro hgood (And.intro hl (And.intro hc hlast)))))
  have HQ := Lib.hid hQ
  clear hj hks hgood hok hbw hcb ha h3 hQ hl hA hop hopc hc hlast
  unfold frame
  rw [h1, h5, h6, h7, h8]
  clear h1 h5 h6 h7 h8
  rw [body_split]
  rw [hw3, hob] at o0 o1 o2
  conv => arg 2; arg 1; whnf
  conv => arg 2; arg 2; arg 1; arg 2; arg 1; whnf
  conv => arg 2; arg 2; arg 1; arg 2; arg 2; arg 1; whnf
  conv => arg 2; arg 2; arg 1; arg 2; arg 2; arg 2; arg 1; arg 1; whnf
  go_wp2_with fail
  rw [← hw3, ← hob]
  rename_i K1 hK1 K2 hK2
  refine sw_open rfl rfl ?_
  have hJ := HJ.out
  refine sw_all _ w w3 hb rb kb ob c last L ks ts a _ HST.out (by omega) (by omega) hJ.2.2.1 rfl rfl rfl rfl rfl ?_
  intro a1 w1 c1 last1 L1 hk1 hc1 hl1 hS1
  refine hK2 a1 w1 ?_
  obtain ⟨hd, hsz, k1, k5, k6, k7, k8, k9, k10⟩ := hk1
  rw [open_act a1 hd hsz]
  refine tail_all (fun n => a1.tmps.getD n undef) w w1 hb rb kb ob c1 last1 L1 ks ts a _ hS1 (by omega) (by omega) hJ.2.2.1 k5 k6 k7 k9 k10 ?_
  intro a2 w2 x u hk2 hS2
  refine hK1 a2 w2 ?_
  obtain ⟨hd2, hsz2, m1, m5, m6, m7, m8, m9, m10⟩ := hk2
  rw [open_act a2 hd2 hsz2]
  refine next_round (fun n => a2.tmps.getD n undef) w2 _ _ _ _ j (by omega) Q (m1.trans k1) m5 m6 m7 (m8.trans k8) ?_
  intro a4 hH
  exact HQ.out a4 w2 c1 last1 L1 (ks ++ [x]) (ts ++ [u]) hH hS2.head (by omega) (by omega) (by simp [hJ.2.1])
theorem loop_act (w wr : World) (hb rb kb c : Nat) (A : Option Addr) (cap : Nat) (l : List OpH) (hl : l.length ≤ 150)
    (h3 : ∀ i (h : i < l.length), ∃ b o, A = some ⟨b, o, none⟩ ∧ b < w.heap.size ∧ ∀ k u, (opCells l[i])[k]? = some u → w.cell? ⟨b, o + i * 3 + k, none⟩ = some u)
    (hok : ∀ x ∈ l, OpH.Good x) (hA : StH w wr hb rb kb c 0 [] [] []) (hc : c ≤ 1000) (Q : Exit → Act → World → Prop) (a0 : Act) (hH : Head (.slice A l.length cap) (.pointer (some ⟨hb, 0, none⟩)) (.pointer (some ⟨rb, 0, none⟩)) (.pointer (some ⟨kb, 0, none⟩)) (.int .i64 0) a0)
    (hQ : ∀ a' w' ks ts, a'.defers = [] → a'.tmps.size = 255 → a'.tmps.getD 7 undef = .pointer (some ⟨kb, 0, none⟩) → BookAt w' kb w.heap.size ks ts → Below w.heap.size w w' → Q (.exit 0) a' w') :
    Code.wp Tryz.prog (.loop bodyL) Q a0 wr := by
  refine wp_loop (fun a' w' => ∃ (j c : Nat) (last : Int) (L : List (HeapP.It Int)) (ks : List (Option Nat × Nat)) (ts : List Value), j ≤ l.length ∧ c ≤ 1000 + j ∧ last ≤ j ∧ Head (.slice A l.length cap) (.pointer (some ⟨hb, 0, none⟩)) (.pointer (some ⟨rb, 0, none⟩)) (.pointer (some ⟨kb, 0, none⟩)) (.int .i64 j) a' ∧ StH w w' hb rb kb c last L ks ts ∧ ks.length = j) (fun a' _ => l.length - (intOf (a'.tmps.getD 8 undef)).toNat) ⟨0, c, 0, [], [], [], Nat.zero_le _, by omega, by omega, hH, hA, rfl⟩ ?_
  rintro a' w' ⟨j, c, last, L, ks, ts, hj, hc, hlast, hH', hA', hks⟩
  obtain ⟨hd, hsz, g1, g5, g6, g7, g8⟩ := hH'
  have hm : l.length - (intOf (a'.tmps.getD 8 undef)).toNat = l.length - j := by rw [g8]; simp [intOf]
  simp only [hm]
  rw [open_act a' hd hsz]
  rcases Nat.lt_or_ge j l.length with hlt | hge
  · refine body_round (fun n => a'.tmps.getD n undef) w w' hb rb kb c last L ks ts A cap l j hlt hl h3 hok hA' hc hlast hks _ g1 g5 g6 g7 g8 ?_
    intro a'' w'' c' last' L' ks' ts' hH'' hA'' hc'' hl'' hks''
    refine ⟨⟨j + 1, c', last', L', ks', ts', hlt, hc'', hl'', hH'', hA'', hks''⟩, ?_⟩
    rw [hH''.2.2.2.2.2.2]
    simp [intOf]
    omega
  · obtain rfl : j = l.length := by omega
    exact last_round (fun n => a'.tmps.getD n undef) w' A l.length cap _ _ _ _ g1 g5 g6 g7 g8 (fun a'' h'' => hQ a'' w' ks ts h''.1 h''.2.1 h''.2.2.2.2.2.1 hA'.book hA'.low)
end Go.Proofs.YtfjpoadmbdjmnaaGreat
