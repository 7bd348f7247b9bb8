/- LruPlays' round behind its switch. -/
import Derived.Test.YthmfbcaidlgkbaaGreatGreatL
namespace Go.Proofs.YthmfbcaidlgkbaaGreat
open Go Go.RowKit LruP
set_option maxRecDepth 1000000
set_option maxHeartbeats 4000000
set_option linter.unusedSimpArgs false

/-- The code behind the piece that begins with region n. -/
def behind (n : Nat) : Code → Option Code
  | .seq a b => match (match a with | .seq (.region m _ _) _ => m == n | _ => false) with
    | true => some b
    | false => match behind n a with
      | some c => some c
      | none => behind n b
  | .block _ c => behind n c
  | .loop c => behind n c
  | .scope c => behind n c
  | _ => none
noncomputable def tailL : Code := (behind 15 bodyL).getD .skip
noncomputable def tail2L : Code := (behind 43 bodyL).getD .skip
def leftS : Code → Code
  | .seq a _ => a
  | c => c
def rightS : Code → Code
  | .seq _ b => b
  | c => c
theorem tail_split : tailL = .seq (leftS tailL) (.seq (leftS (rightS tailL)) (.seq (leftS (rightS (rightS tailL))) tail2L)) := by kernel_rfl
theorem frame_eq (f : Nat → Value) : frame f = ((List.range 359).map f).toArray := by kernel_rfl
/-- A frame is told by its slots. -/
theorem open_frame (t : Array Value) (h : t.size = 359) : t = frame fun n => t.getD n undef := by
  rw [frame_eq]
  refine Array.ext (by simp [h]) fun i h1 h2 => ?_
  simp [Array.getD_eq_getD_getElem?, h1]
theorem open_act (a : Act) (hd : a.defers = []) (h : a.tmps.size = 359) : a = ⟨frame fun n => a.tmps.getD n undef, []⟩ := by
  obtain ⟨t, d⟩ := a
  simp only at hd h ⊢
  rw [hd, ← open_frame t h]
theorem tail1_in (f : Nat → Value) (w w3 : World) (cb rb kb ob : Nat) (room : Int) (c : Nat) (T : List (Slot Int Int)) (ks : List (Option Nat × Nat)) (ts : List Value) (a : OpL) (Q : Exit → Act → World → Prop) (hST : StL w w3 cb rb kb ob room c T ks ts a) (hTl : T.length ≤ 1000000) (_hw : wfkII a.k)
    (h7 : f 7 = .pointer (some ⟨cb, 0, none⟩)) (h8 : f 8 = .pointer (some ⟨rb, 0, none⟩)) (h11 : f 11 = .pointer (some ⟨ob, 0, none⟩)) (h13 : f 13 = .bool true)
    (hQ : ∀ a' w', Kept (f 2) (f 9) (f 10) cb rb ob a' → StL w w' cb rb kb ob room c T ks ts a → Code.wp Tryz.prog tail2L Q a' w') (A B : List (Slot Int Int)) (s : Slot Int Int) (hT : T = A ++ s :: B) (hs : s.k = a.k) :
    Code.wp Tryz.prog tailL Q ⟨frame f, []⟩ w3 := by
  have honce := hST.lru.once
  obtain ⟨o0, o1, o2⟩ := hST.cells
  have hfind := fun W hW => reffind_in rb w.heap.size room A B s W hW (by rw [← hT]; exact hTl) (by rw [← hT]; exact honce.1)
  subst hT
  rw [hs] at hfind
  obtain ⟨n, hn⟩ : ∃ n, n = (A ++ s :: B).length := ⟨_, rfl⟩
  obtain ⟨k, hk'⟩ : ∃ k, k = A.length := ⟨_, rfl⟩
  have hkn : k < n := by rw [hn, hk']; simp
  have i1 : (k : Int) < (n : Int) := by omega
  have e10 : decide ((k : Int) ≥ 0) = true := by simp
  have e11 : decide ((0 : Int) ≤ (k : Int)) = true := by simp
  have HFIND := Lib.hid (hfind w3 hST.ref)
  have HPEEK := Lib.hid (hs ▸ lpeekII_in cb w.heap.size c room A B s w3 hST.lru)
  have HQ := Lib.hid hQ
  have HST := Lib.hid hST
  have HS := Lib.hid hs
  have HN := Lib.hid (And.intro hn hk')
  rw [← hk'] at hfind
  have HFIND := Lib.hid (hfind w3 hST.ref)
  clear hQ hST hs hn _hw hTl honce hfind hk'
  unfold frame
  rw [h7, h8, h11, h13]
  clear h7 h8 h11 h13
  rw [tail_split]
  conv => arg 2; arg 1; whnf
  conv => arg 2; arg 2; arg 1; whnf
  conv => arg 2; arg 2; arg 2; arg 1; whnf
  go_upto_region 43 with (first
    | (go_at_call 7; refine HFIND.out.mono ?_; rintro e w' ⟨rfl, rfl⟩)
    | (go_at_call 15; refine HPEEK.out.mono ?_; rintro e w4 ⟨rfl, hb4⟩))
  have H4 := Lib.hid (HST.out.below hb4)
  obtain ⟨g, cap, q1, q2, r0, r1, r2, r3⟩ := H4.out.ref.cellsAt
  rw [← HN.out.1] at r0 q1
  rw [← HN.out.2] at r1 r2 r3
  have C0 := Lib.hid (And.intro r0 (And.intro r2 r3))
  have C1 := Lib.hid (show w4.cell? ⟨ob, 1, none⟩ = some (.int .i64 a.k) from H4.out.op.cell 1)
  have L0 := Lib.hid (show ob < w4.heap.size ∧ rb < w4.heap.size ∧ g < w4.heap.size from ⟨H4.out.op.lt, by obtain ⟨v, hv, -⟩ := H4.out.ref.rows; exact hv.lt, by
    rcases Nat.lt_or_ge g w4.heap.size with h | h
    · exact h
    · simp [World.cell?, Array.getElem?_eq_none h] at r2⟩)
  have HPIN := Lib.hid (show ∀ W, Below w4.heap.size w4 W → Calls Tryz.prog 16 #[.pointer (some ⟨cb, 0, none⟩), .int .i64 a.k] W fun x w' => x = .returned (.int .i64 s.pins) ∧ Below W.heap.size W w' from fun W hW => by
    have := lpinnedII_in cb w.heap.size c room A B s W (H4.out.below hW).lru
    rw [HS.out] at this
    exact this)
  clear r0 r1 r2 r3 hb4 o0 o1 o2
  refine wp_region_ex (by kernel_rfl) (fun W => Below w4.heap.size w4 W) (fun W W' => Below W.heap.size W W')
    [[(13, none)], [(256, some 0)], [(257, some 1)], [(26, none), (258, some 2)], [(12, none), (258, some 2)], [(258, some 2), (260, some 4)], [(258, some 2), (259, some 3), (261, some 5)], [(258, some 2), (262, some 6)], [(263, some 7)], [(26, none), (264, some 8)], [(264, some 8), (265, some 9)], [(25, none), (266, some 10)], [(8, none), (266, some 10)], [(266, some 10), (268, some 12)], [(266, some 10), (269, some 13)], [(266, some 10), (270, some 14)], [(12, none), (266, some 10)], [(266, some 10), (271, some 15), (272, some 16)], [(266, some 10), (273, some 17)], [(266, some 10), (274, some 18)], [(266, some 10), (267, some 11), (275, some 19)], [(266, some 10), (276, some 20)], [(7, none), (277, some 21)], [(11, none), (277, some 21)], [(277, some 21), (279, some 23)], [(277, some 21), (278, some 22), (280, some 24)], [(8, none), (277, some 21)], [(277, some 21), (282, some 26)], [(277, some 21), (283, some 27)], [(277, some 21), (284, some 28)], [(12, none), (277, some 21)], [(277, some 21), (285, some 29), (286, some 30)], [(277, some 21), (287, some 31)], [(277, some 21), (288, some 32)], [(277, some 21), (281, some 25), (289, some 33)], [(266, some 10), (277, some 21), (290, some 34)], [(264, some 8), (266, some 10), (291, some 35)], [(264, some 8), (292, some 36)], [(293, some 37)], [(26, none), (294, some 38)], [(294, some 38), (295, some 39)], [(294, some 38), (296, some 40)], [(25, none), (297, some 41)], [(297, some 41), (298, some 42)], [(297, some 41), (299, some 43)], [(7, none), (300, some 44)], [(11, none), (300, some 44)], [(300, some 44), (302, some 46)], [(300, some 44), (301, some 45), (303, some 47)], [(300, some 44), (304, some 48)], [(297, some 41), (300, some 44), (305, some 49)], [(294, some 38), (297, some 41), (306, some 50)], [(294, some 38), (307, some 51)]]
    [none, none, none, none, none, none, none, none, none, none, none, none, none, none, none, none, none, none, none, none, none, none, none, none, none, none, none, none, none, none, none, none, none, none, none, none, none, none, none, none, none, none, none, none, none, none, none, none, none, none, none, none, none, none, none, none, none, none, none, none, none, none, none, none, none, none, none, none, none, none, none, none, none, none, none, none, none, none, none, none, none, none, none, none, none, none, none, none, none, none, none, none, none, none, none, none, none, none, none, none, none, none, none, none, none, none, none, none, none, none, none, none, none, none, none, none, none, none, none, none, none, none, none, none, none, none, none, none, none, none, none, none, none, none, none, none, none, none, none, none, none, none, none, none, none, none, none, none, none, none, none, none, none, none, none, none, none, none, none, none, none, none, none, none, none, none, none, none, none, none, none, none, none, none, none, none, none, none, none, none, none, none, none, none, none, none, none, none, none, none, none, none, none, none, none, none, none, none, none, none, none, none, none, none, none, none, none, none, none, none, none, none, none, none, none, none, none, none, none, none, none, none, none, none, none, none, none, none, none, none, none, none, none, none, none, none, none, none, none, none, none, none, none, none, none, none, none, none, none, none, none, none, none, none, none, none, some 0, some 1, some 2, some 3, some 4, some 5, some 6, some 7, some 8, some 9, some 10, some 11, some 12, some 13, some 14, some 15, some 16, some 17, some 18, some 19, some 20, some 21, some 22, some 23, some 24, some 25, some 26, some 27, some 28, some 29, some 30, some 31, some 32, some 33, some 34, some 35, some 36, some 37, some 38, some 39, some 40, some 41, some 42, some 43, some 44, some 45, some 46, some 47, some 48, some 49, some 50, some 51, some 52, none, none, none, none, none, none, none, none, none, none, none, none, none, none, none, none, none, none, none, none, none, none, none, none, none, none, none, none, none, none, none, none, none, none, none, none, none, none, none, none, none, none, none, none, none, none, none, none, none, none] (by kernel_rfl) (by kernel_rfl) ((Below.refl _ _).drew) ?_
  iterate 25
    refine ex_pure (c := ?_) (fun W _ => Below.refl _ W) ?_ ?_
    rotate_left
    · intro a' W hR hF
      simp only [FactsOf, List.nil_append, List.cons_append, List.getD_cons_zero, List.getD_cons_succ, exists_eq_left, and_true, List.getElem?_toArray, List.getElem?_cons_zero, List.getElem?_cons_succ] at hF
      have hcO := (hR.cell (p := ⟨ob, 1, none⟩) L0.out.1).trans C1.out
      have hcR := (hR.cell (p := ⟨rb, 0, none⟩) L0.out.2.1).trans C0.out.1
      have hcV := (hR.cell (p := ⟨g, k * 3 + 1, none⟩) L0.out.2.2).trans C0.out.2.1
      have hcP := (hR.cell (p := ⟨g, k * 3 + 2, none⟩) L0.out.2.2).trans C0.out.2.2
      refine ⟨?_, ?_⟩
      · simp [Region.wanted, yielded, hF]
      · go_simp
        with_reducible rfl
  refine ex_callx (.int .i64 s.pins) (fun a' W hR hF => ?_) ?_
  · simp only [FactsOf, List.nil_append, List.cons_append, List.getD_cons_zero, List.getD_cons_succ, exists_eq_left, and_true, List.getElem?_toArray, List.getElem?_cons_zero, List.getElem?_cons_succ] at hF
    refine ⟨by simp [Region.wanted, yielded, hF], 16, #[.pointer (some ⟨cb, 0, none⟩), .int .i64 a.k], by go_simp, (HPIN.out W hR).mono fun e w' ⟨he, hb⟩ => ⟨he, hR.trans (hb.mono hR.size), hb⟩⟩
  iterate 16
    refine ex_pure (c := ?_) (fun W _ => Below.refl _ W) ?_ ?_
    rotate_left
    · intro a' W hR hF
      simp only [FactsOf, List.nil_append, List.cons_append, List.getD_cons_zero, List.getD_cons_succ, exists_eq_left, and_true, List.getElem?_toArray, List.getElem?_cons_zero, List.getElem?_cons_succ] at hF
      have hcO := (hR.cell (p := ⟨ob, 1, none⟩) L0.out.1).trans C1.out
      have hcR := (hR.cell (p := ⟨rb, 0, none⟩) L0.out.2.1).trans C0.out.1
      have hcV := (hR.cell (p := ⟨g, k * 3 + 1, none⟩) L0.out.2.2).trans C0.out.2.1
      have hcP := (hR.cell (p := ⟨g, k * 3 + 2, none⟩) L0.out.2.2).trans C0.out.2.2
      refine ⟨?_, ?_⟩
      · simp [Region.wanted, yielded, hF]
      · go_simp
        with_reducible rfl
  iterate 9
    refine ex_skip (fun W _ => Below.refl _ W) ?_ ?_
    · intro a' W hR hF
      simp only [FactsOf, List.nil_append, List.cons_append, List.getD_cons_zero, List.getD_cons_succ, exists_eq_left, and_true, List.getElem?_toArray, List.getElem?_cons_zero, List.getElem?_cons_succ] at hF
      simp [Region.wanted, yielded, hF, undef]
  iterate 2
    refine ex_pure (c := ?_) (fun W _ => Below.refl _ W) ?_ ?_
    rotate_left
    · intro a' W hR hF
      simp only [FactsOf, List.nil_append, List.cons_append, List.getD_cons_zero, List.getD_cons_succ, exists_eq_left, and_true, List.getElem?_toArray, List.getElem?_cons_zero, List.getElem?_cons_succ] at hF
      refine ⟨?_, ?_⟩
      · simp [Region.wanted, yielded, hF]
      · go_simp
        with_reducible rfl
  show ∀ W, _ → _
  intro W hR
  simp only [FinOf, List.nil_append, List.cons_append, List.getD_cons_zero, List.getD_cons_succ, forall_eq, forall_exists_index, and_imp, Nat.reduceAdd, Array.getD_eq_getD_getElem?, List.getElem?_toArray, List.getElem?_cons_zero, List.getElem?_cons_succ, Option.getD_some]
  have H6 := Lib.hid (H4.out.below hR)
  clear hR
  go_wp2_with fail
  refine HQ.out _ _ ?_ H6.out
  exact ⟨rfl, rfl, rfl, rfl, rfl, rfl, rfl, rfl, rfl⟩

theorem tail1_out (f : Nat → Value) (w w3 : World) (cb rb kb ob : Nat) (room : Int) (c : Nat) (T : List (Slot Int Int)) (ks : List (Option Nat × Nat)) (ts : List Value) (a : OpL) (Q : Exit → Act → World → Prop) (hST : StL w w3 cb rb kb ob room c T ks ts a) (hTl : T.length ≤ 1000000) (hw : wfkII a.k)
    (h7 : f 7 = .pointer (some ⟨cb, 0, none⟩)) (h8 : f 8 = .pointer (some ⟨rb, 0, none⟩)) (h11 : f 11 = .pointer (some ⟨ob, 0, none⟩)) (h13 : f 13 = .bool true)
    (hQ : ∀ a' w', Kept (f 2) (f 9) (f 10) cb rb ob a' → StL w w' cb rb kb ob room c T ks ts a → Code.wp Tryz.prog tail2L Q a' w') (hno : ∀ s ∈ T, s.k ≠ a.k) :
    Code.wp Tryz.prog tailL Q ⟨frame f, []⟩ w3 := by
  obtain ⟨o0, o1, o2⟩ := hST.cells
  have HFIND := Lib.hid (reffind_out rb w.heap.size room T a.k w3 hST.ref hTl hno)
  have HPEEK := Lib.hid (lpeekII_out cb w.heap.size c room T a.k w3 hST.lru hno hw)
  have HQ := Lib.hid hQ
  have HST := Lib.hid hST
  have HS := Lib.hid (And.intro hno hw)
  clear hQ hST hno hw hTl
  unfold frame
  rw [h7, h8, h11, h13]
  clear h7 h8 h11 h13
  rw [tail_split]
  conv => arg 2; arg 1; whnf
  conv => arg 2; arg 2; arg 1; whnf
  conv => arg 2; arg 2; arg 2; arg 1; whnf
  go_upto_region 43 with (first
    | (go_at_call 7; refine HFIND.out.mono ?_; rintro e w' ⟨rfl, rfl⟩)
    | (go_at_call 15; refine HPEEK.out.mono ?_; rintro e w4 ⟨rfl, hb4⟩))
  have H4 := Lib.hid (HST.out.below hb4)
  have C1 := Lib.hid (show w4.cell? ⟨ob, 1, none⟩ = some (.int .i64 a.k) from H4.out.op.cell 1)
  have L0 := Lib.hid (show ob < w4.heap.size ∧ True from ⟨H4.out.op.lt, trivial⟩)
  have HPIN := Lib.hid (show ∀ W, Below w4.heap.size w4 W → Calls Tryz.prog 16 #[.pointer (some ⟨cb, 0, none⟩), .int .i64 a.k] W fun x w' => x = .returned (.int .i64 0) ∧ Below W.heap.size W w' from fun W hW => lpinnedII_out cb w.heap.size c room T a.k W (H4.out.below hW).lru HS.out.1 HS.out.2)
  clear hb4 o0 o1 o2
  refine wp_region_ex (by kernel_rfl) (fun W => Below w4.heap.size w4 W) (fun W W' => Below W.heap.size W W')
    [[(13, none)], [(256, some 0)], [(257, some 1)], [(26, none), (258, some 2)], [(12, none), (258, some 2)], [(258, some 2), (260, some 4)], [(258, some 2), (259, some 3), (261, some 5)], [(258, some 2), (262, some 6)], [(263, some 7)], [(26, none), (264, some 8)], [(264, some 8), (265, some 9)], [(25, none), (266, some 10)], [(8, none), (266, some 10)], [(266, some 10), (268, some 12)], [(266, some 10), (269, some 13)], [(266, some 10), (270, some 14)], [(12, none), (266, some 10)], [(266, some 10), (271, some 15), (272, some 16)], [(266, some 10), (273, some 17)], [(266, some 10), (274, some 18)], [(266, some 10), (267, some 11), (275, some 19)], [(266, some 10), (276, some 20)], [(7, none), (277, some 21)], [(11, none), (277, some 21)], [(277, some 21), (279, some 23)], [(277, some 21), (278, some 22), (280, some 24)], [(8, none), (277, some 21)], [(277, some 21), (282, some 26)], [(277, some 21), (283, some 27)], [(277, some 21), (284, some 28)], [(12, none), (277, some 21)], [(277, some 21), (285, some 29), (286, some 30)], [(277, some 21), (287, some 31)], [(277, some 21), (288, some 32)], [(277, some 21), (281, some 25), (289, some 33)], [(266, some 10), (277, some 21), (290, some 34)], [(264, some 8), (266, some 10), (291, some 35)], [(264, some 8), (292, some 36)], [(293, some 37)], [(26, none), (294, some 38)], [(294, some 38), (295, some 39)], [(294, some 38), (296, some 40)], [(25, none), (297, some 41)], [(297, some 41), (298, some 42)], [(297, some 41), (299, some 43)], [(7, none), (300, some 44)], [(11, none), (300, some 44)], [(300, some 44), (302, some 46)], [(300, some 44), (301, some 45), (303, some 47)], [(300, some 44), (304, some 48)], [(297, some 41), (300, some 44), (305, some 49)], [(294, some 38), (297, some 41), (306, some 50)], [(294, some 38), (307, some 51)]]
    [none, none, none, none, none, none, none, none, none, none, none, none, none, none, none, none, none, none, none, none, none, none, none, none, none, none, none, none, none, none, none, none, none, none, none, none, none, none, none, none, none, none, none, none, none, none, none, none, none, none, none, none, none, none, none, none, none, none, none, none, none, none, none, none, none, none, none, none, none, none, none, none, none, none, none, none, none, none, none, none, none, none, none, none, none, none, none, none, none, none, none, none, none, none, none, none, none, none, none, none, none, none, none, none, none, none, none, none, none, none, none, none, none, none, none, none, none, none, none, none, none, none, none, none, none, none, none, none, none, none, none, none, none, none, none, none, none, none, none, none, none, none, none, none, none, none, none, none, none, none, none, none, none, none, none, none, none, none, none, none, none, none, none, none, none, none, none, none, none, none, none, none, none, none, none, none, none, none, none, none, none, none, none, none, none, none, none, none, none, none, none, none, none, none, none, none, none, none, none, none, none, none, none, none, none, none, none, none, none, none, none, none, none, none, none, none, none, none, none, none, none, none, none, none, none, none, none, none, none, none, none, none, none, none, none, none, none, none, none, none, none, none, none, none, none, none, none, none, none, none, none, none, none, none, none, none, some 0, some 1, some 2, some 3, some 4, some 5, some 6, some 7, some 8, some 9, some 10, some 11, some 12, some 13, some 14, some 15, some 16, some 17, some 18, some 19, some 20, some 21, some 22, some 23, some 24, some 25, some 26, some 27, some 28, some 29, some 30, some 31, some 32, some 33, some 34, some 35, some 36, some 37, some 38, some 39, some 40, some 41, some 42, some 43, some 44, some 45, some 46, some 47, some 48, some 49, some 50, some 51, some 52, none, none, none, none, none, none, none, none, none, none, none, none, none, none, none, none, none, none, none, none, none, none, none, none, none, none, none, none, none, none, none, none, none, none, none, none, none, none, none, none, none, none, none, none, none, none, none, none, none, none] (by kernel_rfl) (by kernel_rfl) ((Below.refl _ _).drew) ?_
  iterate 11
    refine ex_pure (c := ?_) (fun W _ => Below.refl _ W) ?_ ?_
    rotate_left
    · intro a' W hR hF
      simp only [FactsOf, List.nil_append, List.cons_append, List.getD_cons_zero, List.getD_cons_succ, exists_eq_left, and_true, List.getElem?_toArray, List.getElem?_cons_zero, List.getElem?_cons_succ] at hF
      have hcO := (hR.cell (p := ⟨ob, 1, none⟩) L0.out.1).trans C1.out
      refine ⟨?_, ?_⟩
      · simp [Region.wanted, yielded, hF]
      · go_simp
        with_reducible rfl
  iterate 25
    refine ex_skip (fun W _ => Below.refl _ W) ?_ ?_
    · intro a' W hR hF
      simp only [FactsOf, List.nil_append, List.cons_append, List.getD_cons_zero, List.getD_cons_succ, exists_eq_left, and_true, List.getElem?_toArray, List.getElem?_cons_zero, List.getElem?_cons_succ] at hF
      simp [Region.wanted, yielded, hF, undef]
  iterate 12
    refine ex_pure (c := ?_) (fun W _ => Below.refl _ W) ?_ ?_
    rotate_left
    · intro a' W hR hF
      simp only [FactsOf, List.nil_append, List.cons_append, List.getD_cons_zero, List.getD_cons_succ, exists_eq_left, and_true, List.getElem?_toArray, List.getElem?_cons_zero, List.getElem?_cons_succ] at hF
      have hcO := (hR.cell (p := ⟨ob, 1, none⟩) L0.out.1).trans C1.out
      refine ⟨?_, ?_⟩
      · simp [Region.wanted, yielded, hF]
      · go_simp
        with_reducible rfl
  refine ex_callx (.int .i64 0) (fun a' W hR hF => ?_) ?_
  · simp only [FactsOf, List.nil_append, List.cons_append, List.getD_cons_zero, List.getD_cons_succ, exists_eq_left, and_true, List.getElem?_toArray, List.getElem?_cons_zero, List.getElem?_cons_succ] at hF
    refine ⟨by simp [Region.wanted, yielded, hF], 16, #[.pointer (some ⟨cb, 0, none⟩), .int .i64 a.k], by go_simp, (HPIN.out W hR).mono fun e w' ⟨he, hb⟩ => ⟨he, hR.trans (hb.mono hR.size), hb⟩⟩
  iterate 4
    refine ex_pure (c := ?_) (fun W _ => Below.refl _ W) ?_ ?_
    rotate_left
    · intro a' W hR hF
      simp only [FactsOf, List.nil_append, List.cons_append, List.getD_cons_zero, List.getD_cons_succ, exists_eq_left, and_true, List.getElem?_toArray, List.getElem?_cons_zero, List.getElem?_cons_succ] at hF
      have hcO := (hR.cell (p := ⟨ob, 1, none⟩) L0.out.1).trans C1.out
      refine ⟨?_, ?_⟩
      · simp [Region.wanted, yielded, hF]
      · go_simp
        with_reducible rfl
  show ∀ W, _ → _
  intro W hR
  simp only [FinOf, List.nil_append, List.cons_append, List.getD_cons_zero, List.getD_cons_succ, forall_eq, forall_exists_index, and_imp, Nat.reduceAdd, Array.getD_eq_getD_getElem?, List.getElem?_toArray, List.getElem?_cons_zero, List.getElem?_cons_succ, Option.getD_some]
  have H6 := Lib.hid (H4.out.below hR)
  clear hR
  go_wp2_with fail
  refine HQ.out _ _ ?_ H6.out
  exact ⟨rfl, rfl, rfl, rfl, rfl, rfl, rfl, rfl, rfl⟩

end Go.Proofs.YthmfbcaidlgkbaaGreat
