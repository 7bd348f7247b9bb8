/- Chapter 14's statements: their helpers small, plain, same; the document's ends. -/
import Derived.Test.YtkfbljbhdjnggaaNetR
import Derived.Test.YtkfbljbhdjnggaaNetM
import Derived.Test.YtkfbljbhdjnggaaMinMax
import Derived.Test.YtkfbljbhdjnggaaFlat
import Derived.Test.YtkfbljbhdjnggaaTail
import Derived.Test.YtkfbljbhdjnggaaAppend
import Derived.Laws.MakeOwn
import Derived.StillTailTactics
import Derived.Lib.AppendZeros
namespace Go.Proofs.Ytkfbljbhdjnggaa
open Go Go.RowKit NetP
set_option maxRecDepth 100000
set_option maxHeartbeats 1000000
set_option linter.unusedSimpArgs false

structure Small14 (l : List Pk) (e : Ending) : Prop where
  out : ∃ b : Bool, e = .returned (.bool b) ∧ (b = true → l.length ≤ 60)
theorem small14_any (v : Value) (l : List Pk) (w : World) (h : Pks w v l) (hg : ∀ x ∈ l, PkW x) :
    Calls Try.prog 9 #[v] w fun e w' => Small14 l e ∧ Below w.heap.size w w' := by
  obtain ⟨A, cap, rfl, h1, h2, h3⟩ := Pks.read h
  have hlen : (l.length : Int) ≤ 9223372036854775807 := by omega
  have H3 := Lib.hid h3
  have HG := Lib.hid hg
  clear h h3 hg
  have hend : ∀ q : Int, ∃ b : Bool, (decide ((l.length : Int) ≤ 60) && decide (0 ≤ q)) = b := fun _ => ⟨_, rfl⟩
  go_enter Try.func9, Try.ntmps9
  go_wp2_with fail
  go_loopw [3, 4] (fun r i wr => ∃ (k : Nat) (q : Int), k ≤ l.length ∧ i = .int .i64 k ∧ r = .int .i64 q ∧ -1 ≤ q ∧ q ≤ 6000 ∧ Hid (Below w.heap.size w wr)) (fun _ i _ => l.length - (intOf i).toNat)
  case atStart => exact ⟨0, 6000, by omega, rfl, rfl, by omega, by omega, Lib.hid (Below.refl _ _)⟩
  case round =>
    obtain ⟨k, q, hk, rfl, rfl, hq0, hq1, hI⟩ := hrel
    have hex : (k < l.length ∧ k < 100 ∧ 0 ≤ q) ∨ ¬ (k < l.length ∧ k < 100 ∧ 0 ≤ q) := Classical.em _
    rcases hex with ⟨hlt, h100, hq⟩ | hno
    · have d2 : decide ((k : Int) < 100) = true := decide_eq_true (by omega)
      have d3 : decide (0 ≤ q) = true := decide_eq_true hq
      have d4 : decide ((k : Int) < (l.length : Int)) = true := decide_eq_true (by omega)
      have hltI : (k : Int) < (l.length : Int) := by omega
      have hltC : (k : Int) < 100 := by omega
      obtain ⟨b, o, rfl, hb, _, _, hc2⟩ := H3.out k hlt
      have c2 := (hI.out.cell (p := ⟨b, o + k * 3 + 2, none⟩) hb).trans hc2
      have hxd := (HG.out _ (List.getElem_mem hlt)).d
      clear hc2
      generalize l[k] = x at c2 hxd
      have hxs := str_size x.d
      have HI := Lib.hid hI.out
      clear hI
      go_wp2_with fail
      have hq5 : q ≤ 100000 := by omega
      refine (room_im q x.d.length wr.heap.size _ hq0 hq5 hxd (Sits.fresh wr _ _)).mono ?_
      rintro e w2 ⟨⟨q', rfl, hq2, hq3, -⟩, rfl⟩
      have HB := Lib.hid (HI.out.alloc HI.out.size (.cells #[.int .i64 (x.d.length : Int)] 3))
      have hq6 : q' ≤ 6000 := by omega
      clear HI c2 hxd hxs hq3
      go_wp2
      go_roundw
      case rel => exact ⟨k + 1, q', by omega, by go_num, rfl, hq2, hq6, HB⟩
      case measure => simp [intOf]; omega
    · have HI := Lib.hid hI.out
      clear hI
      have hcs : (¬ k < l.length) ∨ (k < l.length ∧ ¬ k < 100) ∨ (k < l.length ∧ k < 100 ∧ ¬ 0 ≤ q) := by omega
      have h60 : (¬ (l.length ≤ 60)) ∨ l.length ≤ 60 := by omega
      clear hend hno
      rcases h60 with h60 | h60
      · have d1 : decide ((l.length : Int) ≤ 60) = false := decide_eq_false (by omega)
        have d1' : decide (l.length ≤ 60) = false := decide_eq_false h60
        clear h60
        rcases hcs with h5 | ⟨h5, h6⟩ | ⟨h5, h6, h7⟩
        · have d4 : decide ((k : Int) < (l.length : Int)) = false := decide_eq_false (by omega)
          have d4' : decide (k < l.length) = false := decide_eq_false h5
          clear h5
          go_wp2
          go_ret
          exact ⟨⟨⟨false, rfl, by simp⟩⟩, HI.out⟩
        · have d4 : decide ((k : Int) < (l.length : Int)) = true := decide_eq_true (by omega)
          have d4' : decide (k < l.length) = true := decide_eq_true h5
          have d2 : decide ((k : Int) < 100) = false := decide_eq_false (by omega)
          have d2' : decide (k < 100) = false := decide_eq_false h6
          clear h5 h6
          go_wp2
          go_ret
          exact ⟨⟨⟨false, rfl, by simp⟩⟩, HI.out⟩
        · have d4 : decide ((k : Int) < (l.length : Int)) = true := decide_eq_true (by omega)
          have d4' : decide (k < l.length) = true := decide_eq_true h5
          have d2 : decide ((k : Int) < 100) = true := decide_eq_true (by omega)
          have d2' : decide (k < 100) = true := decide_eq_true h6
          have d3 : decide (0 ≤ q) = false := decide_eq_false h7
          clear h5 h6 h7
          go_wp2
          go_ret
          exact ⟨⟨⟨false, rfl, by simp⟩⟩, HI.out⟩
      · have d1 : decide ((l.length : Int) ≤ 60) = true := decide_eq_true (by omega)
        have d1' : decide (l.length ≤ 60) = true := decide_eq_true h60
        have H60 := Lib.hid h60
        obtain ⟨b2, hd2⟩ : ∃ b : Bool, decide (0 ≤ q) = b := ⟨_, rfl⟩
        have hcs : (¬ k < l.length) ∨ (k < l.length ∧ k < 100 ∧ ¬ 0 ≤ q) := by omega
        clear h60
        rcases hcs with h5 | ⟨h5, h6, h7⟩
        · have d4 : decide ((k : Int) < (l.length : Int)) = false := decide_eq_false (by omega)
          have d4' : decide (k < l.length) = false := decide_eq_false h5
          clear h5
          go_wp2
          go_ret
          exact ⟨⟨⟨_, rfl, fun _ => H60.out⟩⟩, HI.out⟩
        · have d4 : decide ((k : Int) < (l.length : Int)) = true := decide_eq_true (by omega)
          have d4' : decide (k < l.length) = true := decide_eq_true h5
          have d2 : decide ((k : Int) < 100) = true := decide_eq_true (by omega)
          have d2' : decide (k < 100) = true := decide_eq_true h6
          have d3 : decide (0 ≤ q) = false := decide_eq_false h7
          clear h5 h6 h7 hd2
          go_wp2
          go_ret
          exact ⟨⟨⟨_, rfl, fun _ => H60.out⟩⟩, HI.out⟩
theorem elemRp : Elem Try.prog 27 48 (.agg #[.int .i64 0, .int .i64 0, .string ⟨#[]⟩]) 3 32 := ⟨Try.underlying27, by kernel_rfl, rfl, by omega⟩
/-- A packet behind a row of the document's packets. -/
theorem push_rp {W : World} {base g : Nat} {v : Value} {n : Nat} {xs : List Value} (h : RowAt W base 48 3 v n xs) (x : Pk) (hg : Sits W g 48 #[.int .i64 x.f, .int .i64 x.t, .string (str x.d)]) (hb : base ≤ W.heap.size) (hl : n ≤ 1000000000) (ty : TypeId) :
    ∃ v' W', (Builtin.append_ #[27, 27] ty #[v, .slice (some ⟨g, 0, none⟩) 1 1]).run Try.prog W = .ok v' W' ∧
      RowAt W' base 48 3 v' (n + 1) (xs ++ encK x) ∧ Below base W W' ∧ (∀ k, k < W.heap.size → v.ownBlock ≠ some k → W'.heap[k]? = W.heap[k]?) ∧ (v'.ownBlock = v.ownBlock ∨ v'.ownBlock = some W.heap.size) ∧ W.heap.size ≤ W'.heap.size := by
  have hmx : maxLen = 9223372036854775807 := by decide
  have hsrc : Src Try.prog 3 27 (.slice (some ⟨g, 0, none⟩) 1 1) 1 (encK x) W := src_slice Try.underlying27 rfl (fun _ => ⟨g, 0, rfl, fun j u hu => by
    rw [Nat.zero_add, hg.cell j]
    simpa [encK] using hu⟩) (by simp [encK, Value.oneCell'])
  obtain ⟨v3, w3, hr3, hX4, gr3, at3⟩ := appendAt_src elemRp h hsrc ty (by omega) (by omega) hb
  have hbw : Below base W w3 := (Below.refl base W).grown gr3 hb (fun k hk => (h.lt k hk).1)
  exact ⟨v3, w3, hr3, hX4, hbw, fun k hk hne => gr3.block k hk fun e => hne e.symm, at3, hbw.size⟩
theorem plain_any (v : Value) (l : List Pk) (w : World) (h : Pks w v l) (hn : l.length ≤ 1000000) :
    Calls Try.prog 13 #[v] w fun e w' => ∃ u, e = .returned u ∧ RowAt w' w.heap.size 48 3 u l.length (l.flatMap encK) ∧ Below w.heap.size w w' := by
  obtain ⟨A, cap, rfl, h1, h2, h3⟩ := Pks.read h
  have hlen : (l.length : Int) ≤ 9223372036854775807 := by omega
  have H3 := Lib.hid h3
  have HN := Lib.hid hn
  clear h h3 hn
  go_enter Try.func13, Try.ntmps13
  go_wp2_with fail
  go_loopw [3, 4] (fun uv iv wr => ∃ (u : Value) (k : Nat), u = uv ∧ k ≤ l.length ∧ iv = .int .i64 k ∧ Hid (RowAt wr w.heap.size 48 3 u k ((l.take k).flatMap encK) ∧ Below w.heap.size w wr)) (fun _ i _ => l.length - (intOf i).toNat)
  case atStart => exact ⟨_, 0, rfl, by omega, rfl, Lib.hid ⟨RowAt.nil _ _ _ _, Below.refl _ _⟩⟩
  case round =>
    obtain ⟨u, k, rfl, hk, rfl, hI⟩ := hrel
    by_cases hlt : k < l.length
    · obtain ⟨b, o, rfl, hb, hc0, hc1, hc2⟩ := H3.out k hlt
      have hsn : (l.take (k + 1)).flatMap encK = (l.take k).flatMap encK ++ encK l[k] := by
        rw [List.take_succ_eq_append_getElem hlt, List.flatMap_append]
        simp
      generalize l[k] = x at hc0 hc1 hc2 hsn
      obtain ⟨hrow, hbw⟩ := hI.out
      have hltI : (k : Int) < (l.length : Int) := by omega
      have c0 := (hbw.cell (p := ⟨b, o + k * 3, none⟩) hb).trans hc0
      have c1 := (hbw.cell (p := ⟨b, o + k * 3 + 1, none⟩) hb).trans hc1
      have c2 := (hbw.cell (p := ⟨b, o + k * 3 + 2, none⟩) hb).trans hc2
      have hbr : b < wr.heap.size := Nat.lt_of_lt_of_le hb hbw.size
      have hal : Below wr.heap.size wr (wr.alloc (.cells #[.int .i64 x.f, .int .i64 x.t, .string (str x.d)] 48)).drew := ((Below.refl _ wr).alloc (Nat.le_refl _) _).drew
      have hsg : Sits (wr.alloc (.cells #[.int .i64 x.f, .int .i64 x.t, .string (str x.d)] 48)).drew wr.heap.size 48 #[.int .i64 x.f, .int .i64 x.t, .string (str x.d)] := (Sits.fresh wr _ _).drew
      obtain ⟨v', W7, hrun, hpush, hb7, -, -, -⟩ := push_rp (hrow.below hal) x hsg (Nat.le_trans hbw.size hal.size) (by have := HN.out; omega) 27
      have HRUN := Lib.hid hrun
      have HNX : Hid (RowAt W7 w.heap.size 48 3 v' (k + 1) ((l.take (k + 1)).flatMap encK) ∧ Below w.heap.size w W7) := Lib.hid ⟨by rw [hsn]; exact hpush, (hbw.trans (hal.mono hbw.size)).trans hb7⟩
      clear hI hrow hbw hsn hc0 hc1 hc2 hrun hpush hb7 hsg hal
      go_wp2_with fail
      go_region_law (refine step_append_eq rfl (.tmp 11) (.tmp 28) 27 27 rfl _ _ _ (by simp [Act.eval, Act.put]) (by simp [Act.eval, Act.put]) HRUN.out ?_)
      all_goals go_wp2
      all_goals go_roundw
      all_goals first
        | exact ⟨_, k + 1, rfl, by omega, by go_num, HNX⟩
        | (simp [intOf]; omega)
    · obtain rfl : k = l.length := by omega
      have HI := Lib.hid hI.out
      clear hI
      go_wp2
      go_ret
      have h1 := HI.out.1
      rw [List.take_length] at h1
      exact ⟨_, rfl, h1, HI.out.2⟩
theorem same14_yes (x : Pk) (w : World) :
    Calls Try.prog 17 #[.agg #[.int .i64 x.f, .int .i64 x.t, .string (str x.d)], .agg #[.int .i64 x.f, .int .i64 x.t, .string (str x.d)]] w fun e w' => e = .returned (.bool true) ∧ Below w.heap.size w w' := by
  obtain ⟨f, t, d⟩ := x
  obtain ⟨W1, hW1⟩ : ∃ W, W = w.alloc (.cells #[.int .i64 f, .int .i64 t, .string (str d)] 45) := ⟨_, rfl⟩
  have hb1 : Below w.heap.size w W1 := hW1 ▸ (Below.refl _ w).alloc (Nat.le_refl _) _
  have s1 : Sits W1 w.heap.size 45 #[.int .i64 f, .int .i64 t, .string (str d)] := hW1 ▸ Sits.fresh w _ _
  obtain ⟨W2, hW2⟩ : ∃ W, W = W1.alloc (.cells #[.int .i64 f, .int .i64 t, .string (str d)] 48) := ⟨_, rfl⟩
  have hb2 : Below W1.heap.size W1 W2 := hW2 ▸ (Below.refl _ W1).alloc (Nat.le_refl _) _
  have s2 : Sits W2 W1.heap.size 48 #[.int .i64 f, .int .i64 t, .string (str d)] := hW2 ▸ Sits.fresh W1 _ _
  have s1' := s1.below' hb2
  have a0 := s1'.cell 0
  have a1 := s1'.cell 1
  have a2 := s1'.cell 2
  have b0 := s2.cell 0
  have b1 := s2.cell 1
  have b2 := s2.cell 2
  have HB := Lib.hid (hb1.trans (hb2.mono hb1.size))
  clear s1 s2 s1' hb1 hb2
  go_enter Try.func17, Try.ntmps17
  rw [hW2, hW1] at a0 a1 a2 b0 b1 b2 HB
  clear hW1 hW2
  go_wp2
  go_ret
  exact ⟨rfl, HB.out⟩
theorem rends_any (a b : Int) (w : World) :
    Calls Try.prog 34 #[.int .i64 a, .int .i64 b] w fun e w' => e = .returned (.agg #[.int .i64 (endsP a b).1, .int .i64 (endsP a b).2]) ∧ Below w.heap.size w w' := by
  unfold endsP
  simp only
  obtain ⟨p, hp⟩ : ∃ p, p = min a b := ⟨_, rfl⟩
  obtain ⟨q, hq⟩ : ∃ q, q = max a b := ⟨_, rfl⟩
  rw [← hp, ← hq]
  have HP := Lib.hid hp.symm
  have HQ := Lib.hid hq.symm
  have hs := Sits.fresh w 62 #[.int .i64 p, .int .i64 q]
  have x0 := hs.cell 0
  have x1 := hs.cell 1
  have HX := Lib.hid (And.intro x0 x1)
  have HF : Hid (Below w.heap.size w (w.alloc (.cells #[.int .i64 p, .int .i64 q] 62))) := Lib.hid ((Below.refl _ w).alloc (Nat.le_refl _) _)
  clear hp hq hs x0 x1
  go_enter Try.func34, Try.ntmps34
  go_wp2_with (first | ((with_reducible refine at_list ?_); refine wpList_min_eq rfl (.tmp 5) (.tmp 6) _ rfl _ _ _ _ _ rfl rfl HP.out ?_) | ((with_reducible refine at_list ?_); refine wpList_max_eq rfl (.tmp 8) (.tmp 9) _ rfl _ _ _ _ _ rfl rfl HQ.out ?_))
  refine bodyPost_ret (v := .agg #[.int .i64 p, .int .i64 q]) ?_ rfl ⟨rfl, HF.out⟩
  simp [results, Try.results34, go_sem, HX.out]
end Go.Proofs.Ytkfbljbhdjnggaa
