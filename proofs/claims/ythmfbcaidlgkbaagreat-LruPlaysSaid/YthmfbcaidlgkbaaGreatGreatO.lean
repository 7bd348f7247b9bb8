/- LruPlays' round, whole. -/
import Derived.Test.YthmfbcaidlgkbaaGreatGreatN
namespace Go.Proofs.YthmfbcaidlgkbaaGreat
open Go Go.RowKit Go.ChangeShapes Go.WideShapes Go.ChangeAt LruP
set_option maxRecDepth 1000000
set_option maxHeartbeats 4000000
set_option linter.unusedSimpArgs false

def blockS : Code → Code
  | .block _ c => c
  | c => c
/-- The piece behind the head. -/
noncomputable def inL : Code := blockS (leftS (rightS bodyL))
noncomputable def nextL : Code := rightS (rightS bodyL)
theorem body_split : bodyL = .seq (leftS bodyL) (.seq (.block 1 (.seq (leftS inL) (.seq (leftS (rightS inL)) (.seq (leftS (rightS (rightS inL))) (.seq (.seq (leftS (leftS (rightS (rightS (rightS inL))))) (.block 2 swL)) tailL))))) nextL) := by kernel_rfl
/-- What stands at a round's head. -/
def AtL (w wr : World) (cb rb kb : Nat) (room : Int) (j : Nat) : Prop :=
  ∃ (c : Nat) (T : List (Slot Int Int)) (ks : List (Option Nat × Nat)) (ts : List Value), c ≤ j ∧ ks.length = j ∧ (∀ s ∈ T, s.pins ≤ j) ∧ LruAtII wr cb w.heap.size c room T ∧ RefL wr rb w.heap.size room T ∧ BookAt wr kb w.heap.size ks ts ∧ Below w.heap.size w wr
/-- What a round asks of a frame. -/
def Head (v2 v7 v8 v9 v10 : Value) (a' : Act) : Prop :=
  a'.defers = [] ∧ a'.tmps.size = 359 ∧ a'.tmps.getD 2 undef = v2 ∧ a'.tmps.getD 7 undef = v7 ∧ a'.tmps.getD 8 undef = v8 ∧ a'.tmps.getD 9 undef = v9 ∧ a'.tmps.getD 10 undef = v10
/-- The round ends: the next one's number. -/
theorem next_round (f : Nat → Value) (wr : World) (v2 v7 v8 v9 : Value) (j : Nat) (hj : (j : Int) < 9223372036854775807) (Q : Exit → Act → World → Prop) (h2 : f 2 = v2) (h7 : f 7 = v7) (h8 : f 8 = v8) (h9 : f 9 = v9) (h10 : f 10 = .int .i64 j)
    (hQ : ∀ a', Head v2 v7 v8 v9 (.int .i64 (j + 1 : Nat)) a' → Q .normal a' wr) : Code.wp Tryz.prog nextL Q ⟨frame f, []⟩ wr := by
  have e1 : IntKind.i64.wrap ((j : Int) + 1) = ((j + 1 : Nat) : Int) := by rw [IntWalk.i64_in _ (by omega)]; omega
  have HQ := Lib.hid hQ
  clear hQ
  subst h2 h7 h8 h9
  unfold frame
  rw [h10]
  clear h10
  conv => arg 2; whnf
  go_wp2_with fail
  exact HQ.out _ ⟨rfl, rfl, rfl, rfl, rfl, rfl, rfl⟩
/-- No more rounds. -/
theorem last_round (f : Nat → Value) (wr : World) (A : Option Addr) (n cap : Nat) (v7 v8 v9 : Value) (Q : Exit → Act → World → Prop) (h2 : f 2 = .slice A n cap) (h7 : f 7 = v7) (h8 : f 8 = v8) (h9 : f 9 = v9) (h10 : f 10 = .int .i64 n)
    (hQ : ∀ a', Head (.slice A n cap) v7 v8 v9 (.int .i64 n) a' → Q (.exit 0) a' wr) : Code.wp Tryz.prog bodyL Q ⟨frame f, []⟩ wr := by
  have HQ := Lib.hid hQ
  clear hQ
  subst h7 h8 h9
  unfold frame
  rw [h2, h10]
  clear h2 h10
  rw [body_split]
  conv => arg 2; arg 1; whnf
  go_wp2_with fail
  exact HQ.out _ ⟨rfl, rfl, rfl, rfl, rfl, rfl, rfl⟩
/-- The switch, whatever the call is. -/
theorem sw_all (f : Nat → Value) (w w3 : World) (cb rb kb ob : Nat) (room : Int) (c : Nat) (T : List (Slot Int Int)) (ks : List (Option Nat × Nat)) (ts : List Value) (a : OpL) (j : Nat) (Q : Exit → Act → World → Prop) (hST : StL w w3 cb rb kb ob room c T ks ts a) (hc : c ≤ 200) (hp : ∀ s ∈ T, s.pins ≤ j) (hj : j ≤ 200) (hw : wfkII a.k)
    (h7 : f 7 = .pointer (some ⟨cb, 0, none⟩)) (h8 : f 8 = .pointer (some ⟨rb, 0, none⟩)) (h11 : f 11 = .pointer (some ⟨ob, 0, none⟩)) (h13 : f 13 = .bool true) (h64 : f 64 = .int .i64 a.kind)
    (hQ : ∀ a' w' c' T', Kept (f 2) (f 9) (f 10) cb rb ob a' → c' ≤ c + 1 → (∀ s ∈ T', s.pins ≤ (j : Int) + 1) → StL w w' cb rb kb ob room c' T' ks ts a → Q .normal a' w')
    (hat : (∃ A s B, T = A ++ s :: B ∧ s.k = a.k ∧ f 12 = .int .i64 A.length) ∨ ((∀ s ∈ T, s.k ≠ a.k) ∧ f 12 = .int .i64 (-1))) : Code.wp Tryz.prog swL Q ⟨frame f, []⟩ w3 := by
  by_cases k1 : a.kind = 1
  · exact sw_put f w w3 cb rb kb ob room c T ks ts a j Q hST hc hp hj hw h7 h8 h11 h13 h64 hQ k1
  by_cases k2 : a.kind = 2
  · rcases hat with ⟨A, s, B, hT, hs, h12⟩ | ⟨hno, h12⟩
    · exact sw_get_in f w w3 cb rb kb ob room c T ks ts a j Q hST hc hp hj hw h7 h8 h11 h13 h64 hQ A B s hT hs h12 k2
    · exact sw_get_out f w w3 cb rb kb ob room c T ks ts a j Q hST hc hp hj hw h7 h8 h11 h13 h64 hQ hno h12 k2
  by_cases k4 : a.kind = 4
  · rcases hat with ⟨A, s, B, hT, hs, h12⟩ | ⟨hno, h12⟩
    · exact sw_pin_in f w w3 cb rb kb ob room c T ks ts a j Q hST hc hp hj hw h7 h8 h11 h13 h64 hQ A B s hT hs h12 k4
    · exact sw_pin_out f w w3 cb rb kb ob room c T ks ts a j Q hST hc hp hj hw h7 h8 h11 h13 h64 hQ hno h12 k4
  by_cases k5 : a.kind = 5
  · rcases hat with ⟨A, s, B, hT, hs, h12⟩ | ⟨hno, h12⟩
    · have h0 := hST.lru.once.2 s (by rw [hT]; simp)
      rcases Int.lt_or_eq_of_le h0 with hpos | hzero
      · exact sw_unpin_in f w w3 cb rb kb ob room c T ks ts a j Q hST hc hp hj hw h7 h8 h11 h13 h64 hQ A B s hT hs h12 k5 hpos
      · exact sw_unpin_free f w w3 cb rb kb ob room c T ks ts a j Q hST hc hp hj hw h7 h8 h11 h13 h64 hQ A B s hT hs h12 k5 hzero.symm
    · exact sw_unpin_out f w w3 cb rb kb ob room c T ks ts a j Q hST hc hp hj hw h7 h8 h11 h13 h64 hQ hno h12 k5
  by_cases k6 : a.kind = 6
  · rcases hat with ⟨A, s, B, hT, hs, h12⟩ | ⟨hno, h12⟩
    · exact sw_delete_in f w w3 cb rb kb ob room c T ks ts a j Q hST hc hp hj hw h7 h8 h11 h13 h64 hQ A B s hT hs h12 k6
    · exact sw_delete_out f w w3 cb rb kb ob room c T ks ts a j Q hST hc hp hj hw h7 h8 h11 h13 h64 hQ hno h12 k6
  exact sw_other f w w3 cb rb kb ob room c T ks ts a j Q hST hc hp hj hw h7 h8 h11 h13 h64 hQ k1 k2 k4 k5 k6
theorem sw_open {Q : Exit → Act → World → Prop} {a : Act} {w : World} (hd : a.defers = []) (hs : a.tmps.size = 359) (h : Code.wp Tryz.prog swL Q ⟨frame fun n => a.tmps.getD n undef, []⟩ w) : Code.wp Tryz.prog swL Q a w := by
  rw [open_act a hd hs]
  exact h
/-- Behind the switch, up to the keys. -/
theorem tail1_all (f : Nat → Value) (w w3 : World) (cb rb kb ob : Nat) (room : Int) (c : Nat) (T : List (Slot Int Int)) (ks : List (Option Nat × Nat)) (ts : List Value) (a : OpL) (Q : Exit → Act → World → Prop) (hST : StL w w3 cb rb kb ob room c T ks ts a) (hTl : T.length ≤ 1000000) (hw : wfkII a.k)
    (h7 : f 7 = .pointer (some ⟨cb, 0, none⟩)) (h8 : f 8 = .pointer (some ⟨rb, 0, none⟩)) (h11 : f 11 = .pointer (some ⟨ob, 0, none⟩)) (h13 : f 13 = .bool true)
    (hQ : ∀ a' w', Kept (f 2) (f 9) (f 10) cb rb ob a' → StL w w' cb rb kb ob room c T ks ts a → Code.wp Tryz.prog tail2L Q a' w') : Code.wp Tryz.prog tailL Q ⟨frame f, []⟩ w3 := by
  rcases cut_key' T a.k with ⟨A, s, B, hT, hs⟩ | hno
  · exact tail1_in f w w3 cb rb kb ob room c T ks ts a Q hST hTl hw h7 h8 h11 h13 hQ A B s hT hs
  · exact tail1_out f w w3 cb rb kb ob room c T ks ts a Q hST hTl hw h7 h8 h11 h13 hQ hno
/-- A round, from its head to the next one's. -/
theorem body_round (f : Nat → Value) (w wr : World) (cb rb kb : Nat) (room : Int) (A : Option Addr) (cap : Nat) (l : List OpL) (j : Nat) (hj : j < l.length) (hl : l.length ≤ 120)
    (h3 : ∀ i (h : i < l.length), ∃ b o, A = some ⟨b, o, none⟩ ∧ b < w.heap.size ∧ ∀ k u, (opCells l[i])[k]? = some u → w.cell? ⟨b, o + i * 3 + k, none⟩ = some u)
    (hok : ∀ x ∈ l, OpL.Good x) (hA : AtL w wr cb rb kb room j) (Q : Exit → Act → World → Prop) (h2 : f 2 = .slice A l.length cap) (h7 : f 7 = .pointer (some ⟨cb, 0, none⟩)) (h8 : f 8 = .pointer (some ⟨rb, 0, none⟩)) (h9 : f 9 = .pointer (some ⟨kb, 0, none⟩)) (h10 : f 10 = .int .i64 j)
    (hQ : ∀ a' w', Head (.slice A l.length cap) (.pointer (some ⟨cb, 0, none⟩)) (.pointer (some ⟨rb, 0, none⟩)) (.pointer (some ⟨kb, 0, none⟩)) (.int .i64 (j + 1 : Nat)) a' → AtL w w' cb rb kb room (j + 1) → Q .normal a' w') :
    Code.wp Tryz.prog bodyL Q ⟨frame f, []⟩ wr := by
  obtain ⟨c, T, ks, ts, hc, hks, hpins, hLR, hRF, hBK, hBW⟩ := hA
  obtain ⟨b, o, rfl, hb, hcb⟩ := h3 j hj
  obtain ⟨a, ha⟩ : ∃ a, a = l[j] := ⟨_, rfl⟩
  rw [← ha] at hcb
  have hgood := hok l[j] (List.getElem_mem hj)
  rw [← ha] at hgood
  have q0 := (hBW.cell (p := ⟨b, o + j * 3 + 0, none⟩) hb).trans (hcb 0 _ rfl)
  have q1 := (hBW.cell (p := ⟨b, o + j * 3 + 1, none⟩) hb).trans (hcb 1 _ rfl)
  have q2 := (hBW.cell (p := ⟨b, o + j * 3 + 2, none⟩) hb).trans (hcb 2 _ rfl)
  simp only [Nat.add_zero] at q0
  have d3 : decide ((j : Int) < (l.length : Int)) = true := by simp; omega
  have hjn : (j : Int) < (l.length : Int) := by omega
  have hbo : Below wr.heap.size wr (wr.alloc (.cells #[.int .i64 a.kind, .int .i64 a.k, .int .i64 a.v] 53)) := (Below.refl _ _).alloc (Nat.le_refl _) _
  have so := Sits.fresh wr 53 #[.int .i64 a.kind, .int .i64 a.k, .int .i64 a.v]
  obtain ⟨w3, hw3⟩ : ∃ w3, w3 = wr.alloc (.cells #[.int .i64 a.kind, .int .i64 a.k, .int .i64 a.v] 53) := ⟨_, rfl⟩
  obtain ⟨ob, hob⟩ : ∃ ob, ob = wr.heap.size := ⟨_, rfl⟩
  rw [← hw3] at hbo so
  rw [← hob] at so
  have hL3 := hLR.below hbo
  have hR3 := hRF.below hbo
  have hK3 := hBK.keep hbo
  have hB3 := hBW.trans (hbo.mono hBW.size)
  have hTk : T.length ≤ 100000 := by have := hL3.le; omega
  have hTl : T.length ≤ 1000000 := by omega
  have honce := hL3.once
  have hfind : ∃ at_ : Int, ((∃ A s B, T = A ++ s :: B ∧ s.k = a.k ∧ at_ = A.length) ∨ ((∀ s ∈ T, s.k ≠ a.k) ∧ at_ = -1)) ∧
      ∀ W, RefL W rb w.heap.size room T → Calls Tryz.prog 7 #[.pointer (some ⟨rb, 0, none⟩), .int .i64 a.k] W fun e w' => e = .returned (.int .i64 at_) ∧ W = w' := by
    rcases cut_key' T a.k with ⟨A, s, B, hT, hs⟩ | hno
    · refine ⟨A.length, .inl ⟨A, s, B, hT, hs, rfl⟩, fun W hW => ?_⟩
      rw [← hs]
      rw [hT] at hW
      exact reffind_in rb _ room A B s W hW (by rw [← hT]; exact hTl) (by rw [← hT]; exact honce.1)
    · exact ⟨-1, .inr ⟨hno, rfl⟩, fun W hW => reffind_out rb _ room T a.k W hW hTl hno⟩
  obtain ⟨at_, hat, hfind⟩ := hfind
  have HF := Lib.hid hfind
  have HAT := Lib.hid hat
  have HST := Lib.hid (show StL w w3 cb rb kb ob room c T ks ts a from ⟨hL3, hR3, hK3, hB3, so⟩)
  have HJ := Lib.hid (And.intro hj (And.intro hc (And.intro hks (And.intro hpins (And.intro hgood (And.intro hl hTk))))))
  have o0 := so.cell 0
  have o1 := so.cell 1
  have o2 := so.cell 2
  simp at o0 o1 o2
  have HQ := Lib.hid hQ
  clear hL3 hR3 hK3 hB3 so hTl hTk honce hfind hat hj hc hks hpins hok hgood hLR hRF hBK hBW hbo hb hcb ha h3 hQ hl
  unfold frame
  rw [h2, h7, h8, h9, h10]
  clear h2 h7 h8 h9 h10
  rw [body_split]
  conv => arg 2; arg 1; whnf
  conv => arg 2; arg 2; arg 1; arg 2; arg 1; whnf
  conv => arg 2; arg 2; arg 1; arg 2; arg 2; arg 1; whnf
  conv => arg 2; arg 2; arg 1; arg 2; arg 2; arg 2; arg 1; whnf
  conv => arg 2; arg 2; arg 1; arg 2; arg 2; arg 2; arg 2; arg 1; arg 1; whnf
  go_wp2_with (go_at_call 7; rw [← hw3, ← hob]; clear hw3 hob q0 q1 q2; refine (HF.out _ HST.out.ref).mono ?_; rintro e w' ⟨rfl, rfl⟩)
  rename_i K1 hK1 K2 hK2
  refine sw_open rfl rfl ?_
  have hJ := HJ.out
  refine sw_all _ w w3 cb rb kb ob room c T ks ts a j _ HST.out (by omega) hJ.2.2.2.1 (by omega) hJ.2.2.2.2.1.2.1 rfl rfl rfl rfl rfl ?_ ?_
  · intro a1 w1 c1 T1 hk1 hc1 hp1 hS1
    refine hK2 a1 w1 ?_
    obtain ⟨hd, hsz, k2, k7, k8, k9, k10, k11, k13⟩ := hk1
    have hT1 : T1.length ≤ 100000 := by have := hS1.lru.le; omega
    rw [open_act a1 hd hsz]
    refine tail1_all (fun n => a1.tmps.getD n undef) w w1 cb rb kb ob room c1 T1 ks ts a _ hS1 (by omega) hJ.2.2.2.2.1.2.1 k7 k8 k11 k13 ?_
    intro a2 w2 hk2 hS2
    obtain ⟨hd2, hsz2, m2, m7, m8, m9, m10, m11, m13⟩ := hk2
    rw [open_act a2 hd2 hsz2]
    refine tail2 (fun n => a2.tmps.getD n undef) w w2 cb rb kb ob room c1 T1 ks ts a _ hS2 hT1 (by omega) m7 m8 (m9.trans k9) m11 m13 ?_
    intro a3 w4 x u hk3 hL hR hB hLow
    refine hK1 a3 w4 ?_
    obtain ⟨hd3, hsz3, n2, n7, n8, n9, n10, -, -⟩ := hk3
    rw [open_act a3 hd3 hsz3]
    refine next_round (fun n => a3.tmps.getD n undef) w4 _ _ _ _ j (by omega) Q (n2.trans (m2.trans k2)) n7 n8 n9 (n10.trans (m10.trans k10)) ?_
    intro a4 hH
    exact HQ.out a4 w4 hH ⟨c1, T1, ks ++ [x], ts ++ [u], by omega, by simp [hJ.2.2.1], fun s hs => by have := hp1 s hs; omega, hL, hR, hB, hLow⟩
  · rcases HAT.out with ⟨A, s, B, hT, hs, hl⟩ | ⟨hno, hl⟩
    · exact .inl ⟨A, s, B, hT, hs, by rw [← hl]; rfl⟩
    · exact .inr ⟨hno, by rw [← hl]; rfl⟩
end Go.Proofs.YthmfbcaidlgkbaaGreat
