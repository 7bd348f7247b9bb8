/- HeapPlays' round behind its switch: the list, kept in the book. -/
import Derived.Test.YtfjpoadmbdjmnaaGreatHpD
import Derived.Test.YtfjpoadmbdjmnaaGreatPushI
import Derived.Test.YtfjpoadmbdjmnaaGreatHeapGI
namespace Go.Proofs.YtfjpoadmbdjmnaaGreat
open Go Go.RowKit HeapP
set_option maxRecDepth 1000000
set_option maxHeartbeats 4000000
set_option linter.unusedSimpArgs false

theorem list_sits {w : World} {b t : Nat} {cs : Array Value} (h : Sits w b t cs) (xs : List Int) (cap : Nat) (h1 : xs.length ≤ cap) (h2 : (cap : Int) ≤ 9223372036854775807) (hc : ∀ i (_ : i < xs.length), cs[i]? = some (.int .i64 xs[i])) :
    SliceAt 1 (fun x => [Value.int .i64 x]) w (.slice (some ⟨b, 0, none⟩) xs.length cap) xs :=
  ⟨_, cap, rfl, h1, h2, fun i hi => ⟨b, 0, rfl, h.lt, fun j u hu => by
    rcases j with _ | j
    · simp only [List.getElem?_cons_zero, Option.some.injEq] at hu
      subst hu
      rw [Nat.mul_one, Nat.add_zero, Nat.zero_add, h.cell i]
      exact hc i hi
    · simp at hu⟩⟩
theorem tail3 (f : Nat → Value) (w w3 : World) (hb rb kb ob c : Nat) (last : Int) (L : List (HeapP.It Int)) (ks : List (Option Nat × Nat)) (ts : List Value) (a : OpH) (Q : Exit → Act → World → Prop) (hST : StP w w3 hb rb kb ob c last L ks ts a) (hLn : L.length ≤ 100000) (hks : ks.length < 250)
    (h5 : f 5 = .pointer (some ⟨hb, 0, none⟩)) (h6 : f 6 = .pointer (some ⟨rb, 0, none⟩)) (h7 : f 7 = .pointer (some ⟨kb, 0, none⟩)) (h9 : f 9 = .pointer (some ⟨ob, 0, none⟩)) (h10 : f 10 = .bool true)
    (hQ : ∀ a' w' x u, Kept (f 1) (.pointer (some ⟨kb, 0, none⟩)) (f 8) hb rb ob a' → StP w w' hb rb kb ob c last L (ks ++ [x]) (ts ++ [u]) a → Q .normal a' w') :
    Code.wp Tryz.prog tail3L Q ⟨frame f, []⟩ w3 := by
  obtain ⟨n, hn⟩ : ∃ n, n = L.length := ⟨_, rfl⟩
  have hn1 : n ≤ 100000 := by omega
  obtain ⟨v0, hs0, hr0⟩ := hST.ref.rows
  obtain ⟨Ad, cap, rfl, q1, q2, q3⟩ := wait_row hr0
  rw [← hn] at hs0 q1 q3
  have r0 : w3.cell? ⟨rb, 0, none⟩ = some (.slice Ad n cap) := (hs0.cell 0).trans rfl
  have rlt := hs0.lt
  have RF := Lib.hid (And.intro r0 (And.intro rlt q3))
  have HQ := Lib.hid (And.intro hQ (And.intro hST hks))
  have HN := Lib.hid (And.intro hn hn1)
  clear hQ hST hks hs0 hr0 q1 q2 q3 r0 rlt hn hn1 hLn
  unfold frame
  rw [h5, h6, h7, h9, h10]
  clear h5 h6 h7 h9 h10
  conv => arg 2; whnf
  go_wp2_with fail
  go_loopw [22, 21] (fun i x wr => ∃ k : Nat, k ≤ n ∧ i = .int .i64 k ∧ IRow wr w3.heap.size x ((L.take k).map fun y => y.v) ∧ Below w3.heap.size w3 wr) (fun i _ _ => n - (intOf i).toNat)
  case atStart => exact ⟨0, by omega, rfl, RowAt.nil _ _ _ _, Below.refl _ _⟩
  case round =>
  obtain ⟨k, hk, rfl, hR, hB⟩ := hrel
  have hn := HN.out.2
  have r0 := (hB.cell (p := ⟨rb, 0, none⟩) RF.out.2.1).trans RF.out.1
  rcases Nat.lt_or_ge k n with hlt | hge
  · have d1 : decide ((k : Int) < (n : Int)) = true := by simp; omega
    have i1 : (k : Int) < (n : Int) := by omega
    have e11 : decide ((0 : Int) ≤ (k : Int)) = true := by simp
    have x0 : IntKind.i64.wrap ((k : Int) + 1) = (k : Int) + 1 := IntWalk.i64_in _ (by omega)
    obtain ⟨g, hAd, hat⟩ := RF.out.2.2 (by omega)
    rw [hAd] at r0
    have hkL : k < L.length := by have := HN.out.1; omega
    have hc0 := hat k (by omega) 2 (.int .i64 (gt L k).v) rfl
    have hc := (hB.cell (p := ⟨g, k * 3 + 2, none⟩) (World.block_lt_of_cell? _ _ hc0)).trans hc0
    have hnext : (L.take (k + 1)).map (fun y => y.v) = (L.take k).map (fun y => y.v) ++ [(gt L k).v] := by
      rw [List.take_add_one, List.map_append, List.getElem?_eq_getElem hkL, gt_elem L hkL]
      rfl
    have hl : ((L.take k).map fun y => y.v).length = k := by simp; omega
    obtain ⟨A3, c3, w4, hrun, hR3, hB3, -⟩ := pushI_one hR (gt L k).v hB.size (by omega) 63
    have hX := hR.form
    rw [hl] at hX hrun hR3
    obtain ⟨Au, cu, rfl, -⟩ := hX
    have HR3 := Lib.hid (show IRow w4 w3.heap.size (.slice A3 (k + 1 : Nat) c3) ((L.take (k + 1)).map fun y => y.v) from hnext ▸ hR3)
    have HB3 := Lib.hid (hB.trans hB3)
    have HRUN := Lib.hid hrun
    have HK := Lib.hid hlt
    clear hR hB hrun hR3 hB3 hlt hk hn hnext hl hat hc0 hkL
    subst hAd
    go_wp2_with (at_builtin; refine wpList_append_eq rfl (.tmp 223) (.tmp 232) 63 63 rfl _ _ _ rfl rfl HRUN.out ?_)
    go_roundw
    case rel => exact ⟨k + 1, by have := HK.out; omega, by go_num, HR3.out, HB3.out⟩
    case measure => simp [intOf]; have := HK.out; omega
  obtain rfl : k = n := by omega
  have d1 : decide ((k : Int) < (k : Int)) = false := by simp
  have hX := hR.form
  have hl : (L.take k).map (fun y => y.v) = L.map fun y => y.v := by rw [HN.out.1, List.take_length]
  rw [hl] at hR hX
  rw [List.length_map, ← HN.out.1] at hX
  obtain ⟨Au, cu, rfl, -⟩ := hX
  have H4 := Lib.hid (HQ.out.2.1.below hB)
  have HR := Lib.hid hR
  clear hge hk hn hR hB hl
  have HLST : Hid (Calls Tryz.prog 14 #[.pointer (some ⟨hb, 0, none⟩)] wr fun e w5 => ∃ x : Option Nat × Nat, e = .returned (keptV x) ∧ Below wr.heap.size wr w5 ∧ Ints w5 (keptV x) (L.map fun y => y.v) ∧ x.2 = k ∧ (x.1 = none → x.2 = 0) ∧ ∀ g, x.1 = some g → (∃ cs : Array Value, Sits w5 g 3 cs ∧ cs.size = x.2) ∧ wr.heap.size ≤ g) := Lib.hid <| by
    by_cases h0 : 0 < L.length
    · refine (hlistI_some hb w.heap.size c last L wr H4.out.heap h0).mono fun e w5 ⟨g, he, hg, hs, hb5⟩ => ⟨(some g, k), ?_, hb5, ?_, rfl, (fun h => by cases h), fun g' hg' => ?_⟩
      · rw [he]
        show _ = Ending.returned (.slice (some ⟨g, 0, none⟩) k k)
        rw [HN.out.1]
      · show Ints w5 (.slice (some ⟨g, 0, none⟩) k k) _
        have := list_sits hs (L.map fun y => y.v) L.length (by simp) (by have := HN.out; omega) (fun q hq => by
          rw [List.getElem?_toArray, List.getElem?_map, List.getElem?_eq_getElem (by simpa using hq)]
          simp [valI])
        rw [List.length_map, ← HN.out.1] at this
        exact this
      · obtain rfl : g = g' := by simpa using hg'
        exact ⟨⟨_, hs, by simp [HN.out.1]⟩, hg⟩
    · have hL0 : L = [] := List.eq_nil_of_length_eq_zero (by omega)
      have := H4.out.heap
      rw [hL0] at this
      refine (hlistI_none hb w.heap.size c last wr this).mono fun e w5 ⟨he, hw⟩ => ⟨(none, 0), he, hw ▸ Below.refl _ _, ?_, by rw [HN.out.1, hL0]; rfl, fun _ => rfl, fun g hg => by cases hg⟩
      rw [hL0]
      exact SliceAt.nil _ _ _
  go_wp2_with fail
  refine HLST.out.mono ?_
  rintro e w5 ⟨x, rfl, hb5, hxi, hx2, hx0, hxb⟩
  have H5 := Lib.hid (H4.out.below hb5)
  have HR5 := Lib.hid (HR.out.below hb5)
  have HX := Lib.hid (And.intro hxi hxb)
  have hnk : ∀ g, x.1 = some g → ¬ KeptS ks g := by
    rintro g hg ⟨y, hy, hyg⟩
    obtain ⟨i, hi, rfl⟩ := List.getElem_of_mem hy
    obtain ⟨cs, hsy, -⟩ := H4.out.book.blocks i _ g (by simp [hi]) hyg
    have := hsy.lt
    have := (hxb g hg).2
    omega
  have HBK := Lib.hid (bookints_new kb w.heap.size ks ts x (L.map fun y => y.v) w5 H5.out.book HQ.out.2.2 hxi (by have := HN.out; simp; omega) ⟨by have := HN.out.2; omega, hx0⟩ (fun g hg => ⟨(hxb g hg).1, by have := (hxb g hg).2; have := H4.out.low.size; omega, hnk g hg⟩) H5.out.low.size)
  clear HLST hxi hx2 hx0 hxb hnk hb5
  go_wp2_with fail
  refine HBK.out.mono ?_
  rintro e w6 ⟨rfl, u, hbk6, hm6, hb6, -⟩
  have hi6 : Ints w6 (keptV x) (L.map fun y => y.v) := ints_many HX.out.1 hm6 fun b o _ hb hS => by
    obtain ⟨n', c', hb⟩ := hb
    have hx1 : x.1 = some b := by
      obtain ⟨og, m⟩ := x
      cases og with
      | none => simp [keptV] at hb
      | some g => simp [keptV] at hb; simp [hb]
    obtain ⟨cs, hs, -⟩ := (HX.out.2 b hx1).1
    rcases hS with ⟨cs', h'⟩ | ⟨cs', h'⟩ <;> exact absurd (sits_type hs h') (by decide)
  have hj6 : Ints w6 (.slice Au k cu) (L.map fun y => y.v) := ints_many (IRow.ints HR5.out) hm6 fun b o _ hb hS => by
    obtain ⟨n', c', hb⟩ := hb
    obtain ⟨cs, hs⟩ := RowAt.sits HR5.out b (by rw [hb]; rfl)
    rcases hS with ⟨cs', h'⟩ | ⟨cs', h'⟩ <;> exact absurd (sits_type hs h') (by decide)
  have H6 := Lib.hid (H5.out.booked hbk6 hm6 hb6)
  have HSM := Lib.hid (sameInts_yes _ _ _ w6 hi6 hj6)
  have d5 : ((k : Int) != (k : Int)) = false := by simp
  clear hbk6 hm6 hb6 hi6 hj6
  go_wp2_with fail
  refine HSM.out.mono ?_
  rintro e w7 ⟨rfl, n7, hw7⟩
  have hb7 : Below w6.heap.size w6 w7 := by rw [hw7]; exact below_drewN (Below.refl _ _) n7
  have H7 := Lib.hid (H6.out.below hb7)
  clear hw7 hb7
  go_wp2_with fail
  refine (hlenI_any hb w.heap.size c last L w7 H7.out.heap).mono ?_
  rintro e w8 ⟨rfl, rfl⟩
  rw [← HN.out.1]
  go_wp2_with fail
  exact HQ.out.1 _ _ x u ⟨rfl, rfl, rfl, rfl, rfl, rfl, rfl, rfl, rfl⟩ H7.out
end Go.Proofs.YtfjpoadmbdjmnaaGreat
