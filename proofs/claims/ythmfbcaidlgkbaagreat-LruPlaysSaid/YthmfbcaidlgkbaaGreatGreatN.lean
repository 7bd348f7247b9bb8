/- LruPlays' round behind its switch, second half: the keys, kept in the book. -/
import Derived.Test.YthmfbcaidlgkbaaGreatGreatM
import Derived.Test.YthmfbcaidlgkbaaGreatBookP
import Derived.Test.YthmfbcaidlgkbaaGreatBookI
namespace Go.Proofs.YthmfbcaidlgkbaaGreat
open Go Go.RowKit Go.ChangeShapes Go.WideShapes Go.ChangeAt LruP
set_option maxRecDepth 1000000
set_option maxHeartbeats 4000000
set_option linter.unusedSimpArgs false

theorem tail2 (f : Nat → Value) (w w3 : World) (cb rb kb ob : Nat) (room : Int) (c : Nat) (T : List (Slot Int Int)) (ks : List (Option Nat × Nat)) (ts : List Value) (a : OpL) (Q : Exit → Act → World → Prop) (hST : StL w w3 cb rb kb ob room c T ks ts a) (hTl : T.length ≤ 100000) (hks : ks.length < 250)
    (h7 : f 7 = .pointer (some ⟨cb, 0, none⟩)) (h8 : f 8 = .pointer (some ⟨rb, 0, none⟩)) (h9 : f 9 = .pointer (some ⟨kb, 0, none⟩)) (h11 : f 11 = .pointer (some ⟨ob, 0, none⟩)) (h13 : f 13 = .bool true)
    (hQ : ∀ a' w' x u, Kept (f 2) (.pointer (some ⟨kb, 0, none⟩)) (f 10) cb rb ob a' → LruAtII w' cb w.heap.size c room T → RefL w' rb w.heap.size room T → BookAt w' kb w.heap.size (ks ++ [x]) (ts ++ [u]) → Below w.heap.size w w' → Q .normal a' w') :
    Code.wp Tryz.prog tail2L Q ⟨frame f, []⟩ w3 := by
  obtain ⟨n, hn⟩ : ∃ n, n = T.length := ⟨_, rfl⟩
  have hn1 : n ≤ 100000 := by omega
  obtain ⟨v0, hs0, hr0⟩ := hST.ref.rows
  obtain ⟨Ad, cap, rfl, q1, q2, q3⟩ := slot_row hr0
  rw [← hn] at hs0 q1 q3
  have r0 : w3.cell? ⟨rb, 0, none⟩ = some (.slice Ad n cap) := (hs0.cell 0).trans rfl
  have rlt := hs0.lt
  have RF := Lib.hid (And.intro r0 (And.intro rlt q3))
  have HQ := Lib.hid (And.intro hQ (And.intro hST hks))
  have HN := Lib.hid (And.intro hn (And.intro hn1 hTl))
  clear hQ hST hks hs0 hr0 q1 q2 q3 r0 rlt hn hn1 hTl
  unfold frame
  rw [h7, h8, h9, h11, h13]
  clear h7 h8 h9 h11 h13
  conv => arg 2; whnf
  go_wp2_with fail
  go_loopw [28, 27] (fun i x wr => ∃ k : Nat, k ≤ n ∧ i = .int .i64 k ∧ IRow wr w3.heap.size x ((T.take k).map Slot.k) ∧ Below w3.heap.size w3 wr) (fun i _ _ => n - (intOf i).toNat)
  case atStart => exact ⟨0, by omega, rfl, RowAt.nil _ _ _ _, Below.refl _ _⟩
  case round =>
  obtain ⟨k, hk, rfl, hR, hB⟩ := hrel
  have hn := HN.out.2.1
  have r0 := (hB.cell (p := ⟨rb, 0, none⟩) RF.out.2.1).trans RF.out.1
  rcases Nat.lt_or_ge k n with hlt | hge
  · have d1 : decide ((k : Int) < (n : Int)) = true := by simp; omega
    have i1 : (k : Int) < (n : Int) := by omega
    have e11 : decide ((0 : Int) ≤ (k : Int)) = true := by simp
    have x0 : IntKind.i64.wrap ((k : Int) + 1) = (k : Int) + 1 := IntWalk.i64_in _ (by omega)
    obtain ⟨g, hAd, -, hgl, hat, -⟩ := RF.out.2.2 (by omega)
    rw [hAd] at r0
    obtain ⟨A, s, B, hT, hA⟩ : ∃ A s B, T = A ++ s :: B ∧ A.length = k := ⟨T.take k, T[k]'(by have := HN.out.1; omega), T.drop (k + 1), by simp, by have := HN.out.1; simp; omega⟩
    have hnext : (T.take (k + 1)).map Slot.k = (T.take k).map Slot.k ++ [s.k] := by
      subst hA
      rw [hT]
      simp [List.take_append]
      exact List.take_of_length_le (by simp)
    have hl : ((T.take k).map Slot.k).length = k := by have := HN.out.1; simp; omega
    have hc := (hB.cell (p := ⟨g, k * 3, none⟩) hgl).trans (hat (k * 3) (.int .i64 s.k) (by rw [hT, ← hA]; exact (flatL_at A B s 0 (by omega)).trans rfl))
    obtain ⟨A3, c3, w4, hrun, hR3, hB3, hM3, -, -⟩ := pushI_one hR s.k hB.size (by omega) 62
    have hX := hR.form
    rw [hl] at hX hrun hR3
    obtain ⟨Au, cu, rfl, -⟩ := hX
    have HR3 := Lib.hid (show IRow w4 w3.heap.size (.slice A3 (k + 1 : Nat) c3) ((T.take (k + 1)).map Slot.k) from hnext ▸ hR3)
    have HB3 := Lib.hid (hB.trans hB3)
    have HRUN := Lib.hid hrun
    have HK := Lib.hid hlt
    clear hR hB hrun hR3 hB3 hM3 hlt hk hn hT hA hnext hl hat hgl
    subst hAd
    go_wp2_with (at_builtin; refine wpList_append_eq rfl (.tmp 318) (.tmp 327) 62 62 rfl _ _ _ rfl rfl HRUN.out ?_)
    go_roundw
    case rel => exact ⟨k + 1, by have := HK.out; omega, by go_num, HR3.out, HB3.out⟩
    case measure => simp [intOf]; have := HK.out; omega
  obtain rfl : k = n := by omega
  have d1 : decide ((k : Int) < (k : Int)) = false := by simp
  have hX := hR.form
  have hl : (T.take k).map Slot.k = T.map Slot.k := by rw [HN.out.1, List.take_length]
  rw [hl] at hR hX
  rw [List.length_map, ← HN.out.1] at hX
  obtain ⟨Au, cu, rfl, -⟩ := hX
  have H4 := Lib.hid (HQ.out.2.1.below hB)
  have HR := Lib.hid hR
  have HB := Lib.hid hB
  clear hge hk hn hR hB hl
  have HKEYS : Hid (Calls Tryz.prog 17 #[.pointer (some ⟨cb, 0, none⟩)] wr fun e w5 => ∃ x : Option Nat × Nat, e = .returned (keptV x) ∧ Below wr.heap.size wr w5 ∧ Ints w5 (keptV x) (T.map Slot.k) ∧ x.2 = k ∧ (x.1 = none → x.2 = 0) ∧ ∀ g, x.1 = some g → (∃ cs : Array Value, Sits w5 g 3 cs ∧ cs.size = x.2) ∧ wr.heap.size ≤ g) := Lib.hid <| (lkeysII_any cb w.heap.size c room T wr H4.out.lru).mono fun e w5 h5 => by
    obtain ⟨hb5, h5⟩ := h5
    rcases h5 with ⟨hT0, rfl⟩ | ⟨g, rfl, h1, h2⟩
    · refine ⟨(none, 0), rfl, hb5, ?_, by rw [HN.out.1, hT0]; rfl, fun _ => rfl, fun g hg => by cases hg⟩
      rw [hT0]
      exact SliceAt.nil _ _ _
    · have hn := HN.out
      refine ⟨(some g, k), by rw [hn.1]; rfl, hb5, ?_, rfl, (fun h => by cases h), fun g' hg => ?_⟩
      · have hs := row_sits h2 (T.map Slot.k) T.length (by simp) (by omega) (fun q hq => by
          unfold _root_.Go.Proofs.YthmfbcaidlgkbaaGreat.vals
          rw [List.getElem?_toArray, List.getElem?_map, List.getElem?_eq_getElem hq]
          rfl)
        rw [List.length_map, ← hn.1] at hs
        exact hs
      · obtain rfl : g = g' := by simpa using hg
        exact ⟨⟨_, h2, by simp [_root_.Go.Proofs.YthmfbcaidlgkbaaGreat.vals, hn.1]⟩, h1⟩
  go_upto_region 51 with (go_at_call 17; refine HKEYS.out.mono ?_; rintro e w5 ⟨x, rfl, hb5, hxi, hx2, hx0, hxb⟩)
  have H5 := Lib.hid (H4.out.below hb5)
  have HR5 := Lib.hid (HR.out.below hb5)
  have HX := Lib.hid (And.intro hxi hxb)
  have hnk : ∀ g, x.1 = some g → ¬ KeptS ks g := by
    rintro g hg ⟨y, hy, hyg⟩
    obtain ⟨i, hi, rfl⟩ := List.getElem_of_mem hy
    obtain ⟨cs, hsy, -⟩ := H4.out.book.blocks i _ g (by simp [hi]) hyg
    have := hsy.lt
    have := (hxb g hg).2
    omega
  have HBK := Lib.hid (bookints_any kb w.heap.size ks ts x (T.map Slot.k) w5 H5.out.book HQ.out.2.2 hxi (by have := HN.out.2.2; simp; omega) ⟨by have := HN.out.2.1; omega, hx0⟩ (fun g hg => ⟨(hxb g hg).1, by have := (hxb g hg).2; have := H4.out.low.size; omega, hnk g hg⟩) H5.out.low.size)
  clear HKEYS hxi hx2 hx0 hxb hnk hb5
  go_upto_region 52 with (go_at_call 18; refine HBK.out.mono ?_; rintro e w6 ⟨rfl, u, hbk6, hm6, hb6⟩)
  have hi6 : Ints w6 (keptV x) (T.map Slot.k) := ints_many HX.out.1 hm6 fun b o _ hb hS => by
    obtain ⟨n', c', hb⟩ := hb
    have hx1 : x.1 = some b := by
      obtain ⟨og, m⟩ := x
      cases og with
      | none => simp [keptV] at hb
      | some g => simp [keptV] at hb; simp [hb]
    obtain ⟨cs, hs, -⟩ := (HX.out.2 b hx1).1
    rcases hS with ⟨cs', h'⟩ | ⟨cs', h'⟩ <;> exact absurd (sits_type hs h') (by decide)
  have hj6 : Ints w6 (.slice Au k cu) (T.map Slot.k) := ints_many (IRow.ints HR5.out) hm6 fun b o _ hb hS => by
    obtain ⟨n', c', hb⟩ := hb
    obtain ⟨cs, hs⟩ := RowAt.sits HR5.out b (by rw [hb]; rfl)
    rcases hS with ⟨cs', h'⟩ | ⟨cs', h'⟩ <;> exact absurd (sits_type hs h') (by decide)
  have hL6 := H5.out.lru.book hm6
  have hR6 := H5.out.ref.book hm6
  have hB6 := H5.out.low.trans hb6
  have C0 : Hid (w6.cell? ⟨rb, 1, none⟩ = some (.int .i64 room)) := Lib.hid (by obtain ⟨v, hs, -⟩ := hR6.rows; exact (hs.cell 1).trans rfl)
  have L0 := Lib.hid (show rb < w6.heap.size by obtain ⟨v, hs, -⟩ := hR6.rows; exact hs.lt)
  have H6 := Lib.hid (And.intro hL6 (And.intro hR6 (And.intro hbk6 (And.intro hB6 (And.intro hi6 hj6)))))
  clear hm6 hb6 hi6 hj6 hL6 hR6 hB6 hbk6
  refine wp_region_ex (by kernel_rfl) (fun W => Below w6.heap.size w6 W) (fun W W' => Below W.heap.size W W')
    [[(29, none)], [(27, none)], [(334, some 0), (335, some 1)], [(336, some 2)], [(337, some 3)], [(7, none), (338, some 4)], [(338, some 4), (339, some 5)], [(27, none), (338, some 4)], [(338, some 4), (341, some 7)], [(338, some 4), (340, some 6), (342, some 8)], [(338, some 4), (343, some 9)], [(344, some 10)], [(7, none), (345, some 11)], [(345, some 11), (346, some 12)], [(8, none), (345, some 11)], [(345, some 11), (348, some 14)], [(345, some 11), (349, some 15)], [(345, some 11), (350, some 16)], [(345, some 11), (347, some 13), (351, some 17)], [(345, some 11), (352, some 18)]]
    [none, none, none, none, none, none, none, none, none, none, none, none, none, none, none, none, none, none, none, none, none, none, none, none, none, none, none, none, none, none, none, none, none, none, none, none, none, none, none, none, none, none, none, none, none, none, none, none, none, none, none, none, none, none, none, none, none, none, none, none, none, none, none, none, none, none, none, none, none, none, none, none, none, none, none, none, none, none, none, none, none, none, none, none, none, none, none, none, none, none, none, none, none, none, none, none, none, none, none, none, none, none, none, none, none, none, none, none, none, none, none, none, none, none, none, none, none, none, none, none, none, none, none, none, none, none, none, none, none, none, none, none, none, none, none, none, none, none, none, none, none, none, none, none, none, none, none, none, none, none, none, none, none, none, none, none, none, none, none, none, none, none, none, none, none, none, none, none, none, none, none, none, none, none, none, none, none, none, none, none, none, none, none, none, none, none, none, none, none, none, none, none, none, none, none, none, none, none, none, none, none, none, none, none, none, none, none, none, none, none, none, none, none, none, none, none, none, none, none, none, none, none, none, none, none, none, none, none, none, none, none, none, none, none, none, none, none, none, none, none, none, none, none, none, none, none, none, none, none, none, none, none, none, none, none, none, none, none, none, none, none, none, none, none, none, none, none, none, none, none, none, none, none, none, none, none, none, none, none, none, none, none, none, none, none, none, none, none, none, none, none, none, none, none, none, none, none, none, none, none, none, none, none, none, none, none, none, none, none, none, none, none, none, none, none, none, none, none, none, none, none, none, none, none, none, none, none, none, none, none, none, none, none, none, some 0, some 1, some 2, some 3, some 4, some 5, some 6, some 7, some 8, some 9, some 10, some 11, some 12, some 13, some 14, some 15, some 16, some 17, some 18, some 19, none, none, none, none, none] (by kernel_rfl) (by kernel_rfl) ((Below.refl _ _).drew) ?_
  iterate 2
    refine ex_pure (c := ?_) (fun W _ => Below.refl _ W) ?_ ?_
    rotate_left
    · intro a' W hR hF
      simp only [FactsOf, List.nil_append, List.cons_append, List.getD_cons_zero, List.getD_cons_succ, exists_eq_left, and_true, List.getElem?_toArray, List.getElem?_cons_zero, List.getElem?_cons_succ] at hF
      have hcR := (hR.cell (p := ⟨rb, 1, none⟩) L0.out).trans C0.out
      refine ⟨?_, ?_⟩
      · simp [Region.wanted, yielded, hF]
      · go_simp
        with_reducible rfl
  refine ex_callx (.bool true) (fun a' W hR hF => ?_) ?_
  · simp only [FactsOf, List.nil_append, List.cons_append, List.getD_cons_zero, List.getD_cons_succ, exists_eq_left, and_true, List.getElem?_toArray, List.getElem?_cons_zero, List.getElem?_cons_succ] at hF
    refine ⟨by simp [Region.wanted, yielded, hF], 19, #[keptV x, .slice Au k cu], by go_simp, (sameInts_yes (keptV x) (.slice Au k cu) _ W (H6.out.2.2.2.2.1.below hR) (H6.out.2.2.2.2.2.below hR)).mono fun e w' ⟨he, m, hw⟩ => ⟨he, by rw [hw]; exact below_drewN hR m, by rw [hw]; exact below_drewN (Below.refl _ W) m⟩⟩
  iterate 3
    refine ex_pure (c := ?_) (fun W _ => Below.refl _ W) ?_ ?_
    rotate_left
    · intro a' W hR hF
      simp only [FactsOf, List.nil_append, List.cons_append, List.getD_cons_zero, List.getD_cons_succ, exists_eq_left, and_true, List.getElem?_toArray, List.getElem?_cons_zero, List.getElem?_cons_succ] at hF
      have hcR := (hR.cell (p := ⟨rb, 1, none⟩) L0.out).trans C0.out
      refine ⟨?_, ?_⟩
      · simp [Region.wanted, yielded, hF]
      · go_simp
        with_reducible rfl
  refine ex_callx (.int .i64 k) (fun a' W hR hF => ?_) ?_
  · simp only [FactsOf, List.nil_append, List.cons_append, List.getD_cons_zero, List.getD_cons_succ, exists_eq_left, and_true, List.getElem?_toArray, List.getElem?_cons_zero, List.getElem?_cons_succ] at hF
    refine ⟨by simp [Region.wanted, yielded, hF], 20, #[.pointer (some ⟨cb, 0, none⟩)], by go_simp, (llenII_any cb w.heap.size c room T W (H6.out.1.below hR)).mono fun e w' ⟨he, hw⟩ => ⟨by rw [he, HN.out.1], hw ▸ hR, by rw [hw]; exact Below.refl _ _⟩⟩
  iterate 6
    refine ex_pure (c := ?_) (fun W _ => Below.refl _ W) ?_ ?_
    rotate_left
    · intro a' W hR hF
      simp only [FactsOf, List.nil_append, List.cons_append, List.getD_cons_zero, List.getD_cons_succ, exists_eq_left, and_true, List.getElem?_toArray, List.getElem?_cons_zero, List.getElem?_cons_succ] at hF
      have hcR := (hR.cell (p := ⟨rb, 1, none⟩) L0.out).trans C0.out
      refine ⟨?_, ?_⟩
      · simp [Region.wanted, yielded, hF]
      · go_simp
        with_reducible rfl
  refine ex_callx (.int .i64 room) (fun a' W hR hF => ?_) ?_
  · simp only [FactsOf, List.nil_append, List.cons_append, List.getD_cons_zero, List.getD_cons_succ, exists_eq_left, and_true, List.getElem?_toArray, List.getElem?_cons_zero, List.getElem?_cons_succ] at hF
    refine ⟨by simp [Region.wanted, yielded, hF], 21, #[.pointer (some ⟨cb, 0, none⟩)], by go_simp, (lroomII_any cb w.heap.size c room T W (H6.out.1.below hR)).mono fun e w' ⟨he, hw⟩ => ⟨he, hw ▸ hR, by rw [hw]; exact Below.refl _ _⟩⟩
  iterate 6
    refine ex_pure (c := ?_) (fun W _ => Below.refl _ W) ?_ ?_
    rotate_left
    · intro a' W hR hF
      simp only [FactsOf, List.nil_append, List.cons_append, List.getD_cons_zero, List.getD_cons_succ, exists_eq_left, and_true, List.getElem?_toArray, List.getElem?_cons_zero, List.getElem?_cons_succ] at hF
      have hcR := (hR.cell (p := ⟨rb, 1, none⟩) L0.out).trans C0.out
      refine ⟨?_, ?_⟩
      · simp [Region.wanted, yielded, hF]
      · go_simp
        with_reducible rfl
  show ∀ W, _ → _
  intro W hR
  simp only [FinOf, List.nil_append, List.cons_append, List.getD_cons_zero, List.getD_cons_succ, forall_eq, forall_exists_index, and_imp, Nat.reduceAdd, Array.getD_eq_getD_getElem?, List.getElem?_toArray, List.getElem?_cons_zero, List.getElem?_cons_succ, Option.getD_some]
  have H7 := Lib.hid (And.intro (H6.out.1.below hR) (And.intro (H6.out.2.1.below hR) (And.intro (H6.out.2.2.1.keep hR) (H6.out.2.2.2.1.trans (hR.mono H6.out.2.2.2.1.size)))))
  clear hR
  go_wp2_with fail
  refine HQ.out.1 _ _ x u ?_ H7.out.1 H7.out.2.1 H7.out.2.2.1 H7.out.2.2.2
  exact ⟨rfl, rfl, rfl, rfl, rfl, rfl, rfl, rfl, rfl⟩
end Go.Proofs.YthmfbcaidlgkbaaGreat
