/- Package sess: told. -/
import Derived.Test.YtbpcbdlmkoajdaaSesC
import Derived.Test.YtbpcbdlmkoajdaaPushS
import Derived.Test.YtbpcbdlmkoajdaaAppend2
namespace Go.Proofs.Ytbpcbdlmkoajdaa
open Go Go.RowKit Go.Maps SesP
set_option maxRecDepth 100000
set_option maxHeartbeats 2000000
set_option linter.unusedSimpArgs false
namespace SesP
/-- j of the messages that are next are told. -/
def toldJ (s : Ses) (j : Nat) : Ses := { s with n := s.n + j, A := fun i => if i ≤ (s.n : Int) + (j : Int) then none else s.A i }
theorem toldJ_all (s : Ses) : toldJ s (toldL s.A 66 s.n).length = toldS s := by
  unfold toldJ toldS
  simp only [Int.natCast_add]
theorem toldJ_none {c : Nat} {s : Ses} (h : Near c s) : toldJ s 0 = s := by
  unfold toldJ
  cases s with
  | mk p q m y W k n A o =>
    simp only [Nat.add_zero, Ses.mk.injEq, true_and, and_true]
    funext i
    split
    · cases e : A i with
      | none => rfl
      | some d =>
        have := (h.A i d e).1
        simp only at this
        omega
    · rfl
end SesP
section
variable {g p q m nn c : Nat} {s : Ses} {S : Nat → Prop} {w : World}
theorem stold_any (hS : ∀ k, w.heap.size ≤ k → S k) (h : SR g p q m nn s S w) (hn : s.n ≤ 10000000000) (hN : Near c s) :
    Calls Try.prog 25 #[.pointer (some ⟨g, 0, none⟩)] w fun e w' => (∃ v, e = .returned v ∧ TRow w' w.heap.size v (toldL s.A 66 s.n)) ∧ SR g p q m nn (toldS s) S w' ∧ Many S w w' := by
  have hfew := told_few hN
  have h0 := toldJ_none hN
  have hlast := toldJ_all s
  have hat := toldL_at s.A 66 s.n
  have hend := toldL_end s.A 66 s.n (by omega)
  obtain ⟨T, hT⟩ : ∃ T, T = toldL s.A 66 s.n := ⟨_, rfl⟩
  rw [← hT] at hfew hlast hat hend ⊢
  have H0 : Hid (SR g p q m nn (toldJ s 0) (fun k => S k ∧ k < w.heap.size) w) := Lib.hid (by rw [h0]; exact h.less)
  have HL := Lib.hid hlast
  have HAT := Lib.hid hat
  have HEND := Lib.hid hend
  have HS := Lib.hid hS
  have hgl := h.sits.lt
  clear hT hlast hat hend h0 hN h hS
  go_enter Try.func25, Try.ntmps25
  go_wp2_with fail
  go_loopw [3] (fun v wr => ∃ j : Nat, j ≤ T.length ∧ (∃ A cap, v = .slice A j cap) ∧ Hid (TRow wr w.heap.size v (T.take j) ∧ SR g p q m nn (toldJ s j) (fun k => S k ∧ k < w.heap.size) wr ∧ Many S w wr)) (fun v _ => T.length - (match v with | .slice _ n _ => n | _ => 0))
  case atStart => exact ⟨0, Nat.zero_le _, ⟨none, 0, rfl⟩, Lib.hid ⟨RowAt.nil _ _ _ _, H0.out, Many.refl S w⟩⟩
  case round =>
    obtain ⟨j, hj, ⟨A, cap, rfl⟩, hI⟩ := hrel
    obtain ⟨hrow, hsr, hmm⟩ := hI.out
    obtain ⟨c0, c1, c2, c3, c4, c5, c6, c7, c8, hl⟩ := hsr.cells
    have hnI : (s.n : Int) ≤ 10000000000 := by omega
    have hjI : (j : Int) ≤ 65 := by omega
    have hkey : I64 ((s.n : Int) + (j : Int) + 1) := by unfold I64; omega
    have c6 : wr.cell? ⟨g, 6, none⟩ = some (.int .i64 ((s.n : Int) + (j : Int))) := by rw [c6]; rfl
    have hA : ∀ i, (toldJ s j).A i = if i ≤ (s.n : Int) + (j : Int) then none else s.A i := fun _ => rfl
    have hAk : (toldJ s j).A ((s.n : Int) + (j : Int) + 1) = s.A ((s.n : Int) + (j : Int) + 1) := by rw [hA, if_neg (by omega)]
    obtain ⟨x, B, hx, hlk⟩ : ∃ (x : List UInt8) (B : Bool), ((B = true ∧ s.A ((s.n : Int) + (j : Int) + 1) = some x) ∨ (B = false ∧ s.A ((s.n : Int) + (j : Int) + 1) = none)) ∧ ∀ W, Below wr.heap.size wr W → (Instr.lookup 47 (.map (some m)) (.int .i64 ((s.n : Int) + (j : Int) + 1)) true).run Try.prog W = .ok (.tuple #[.agg #[.string (str x)], .bool B]) W := by
      cases e : s.A ((s.n : Int) + (j : Int) + 1) with
      | some x => exact ⟨x, true, .inl ⟨rfl, rfl⟩, fun W hW => (hsr.map.below hW).look_in hkey (by rw [hAk, e])⟩
      | none => exact ⟨[], false, .inr ⟨rfl, rfl⟩, fun W hW => (hsr.map.below hW).look_out hkey (by rw [hAk, e])⟩
    have HCE : Hid (∀ W, Below wr.heap.size wr W → W.cell? ⟨g, 6, none⟩ = some (.int .i64 ((s.n : Int) + (j : Int))) ∧ W.cell? ⟨g, 7, none⟩ = some (.map (some m)) ∧ g < W.heap.size) := Lib.hid fun W hW => ⟨(hW.cell hl).trans c6, (hW.cell hl).trans c7, Nat.lt_of_lt_of_le hl hW.size⟩
    have hwx : IntKind.i64.wrap ((s.n : Int) + (j : Int) + 1) = (s.n : Int) + (j : Int) + 1 := by rw [IntKind.wrap_i64]; unfold I64 at hkey; omega
    have HLK := Lib.hid hlk
    have HXX := Lib.hid hx
    have HKEY := Lib.hid hkey
    clear hlk hx hkey hrow hsr hmm c0 c1 c2 c3 c4 c5 c6 c7 c8 hl hA hAk
    go_wp2_with fail
    refine wp_region_exV (by kernel_rfl) (ClsK wr 13 14 65 #[.string ⟨#[]⟩] #[.string (str x)])
      [[(0, none)], [(7, some 0)], [(8, some 1)], [(9, some 2)], [(0, none)], [(11, some 4)], [(12, some 5)], [(13, some 6)], [(14, some 7)], [(10, some 3), (15, some 8)], [(16, some 9)], [(6, some 10)], [(6, some 10)], [], [(4, some 13), (17, some 11)], [(18, some 12)]]
      [none, none, none, none, some 13, some 15, some 10, some 0, some 1, some 2, some 3, some 4, some 5, some 6, some 7, some 8, some 9, some 11, some 12, none, none, none, none, none, none, none, none, none, none, none, none, none, none, none, none, none, none, none, none, none, none, none] (by kernel_rfl) (by kernel_rfl) (ClsK.start _ _ _ _ _ _) ?_
    iterate 8
      refine exV_pure (c := ?_) (fun _ _ v h => h.pure (by decide) (by decide) v) ?_ ?_
      rotate_left
      · intro a' d' W hR hF
        simp only [FactsV, List.nil_append, List.cons_append, List.getD_cons_zero, List.getD_cons_succ, exists_eq_left, and_true, true_and, List.getElem?_toArray, List.getElem?_cons_zero, List.getElem?_cons_succ] at hF
        obtain ⟨c6, c7, hl⟩ := HCE.out W hR.low
        refine ⟨?_, ?_⟩
        · simp [Region.wanted, yielded, hF]
        · go_simp
          with_reducible rfl
    refine exV_pure (c := .int .i64 ((s.n : Int) + (j : Int) + 1)) (fun _ _ v h => h.pure (by decide) (by decide) v) ?_ ?_
    · intro a' d' W hR hF
      simp only [FactsV, List.nil_append, List.cons_append, List.getD_cons_zero, List.getD_cons_succ, exists_eq_left, and_true, true_and, List.getElem?_toArray, List.getElem?_cons_zero, List.getElem?_cons_succ] at hF
      refine ⟨?_, ?_⟩
      · simp [Region.wanted, yielded, hF]
      · go_simp
    refine exV_pure (c := .tuple #[.agg #[.string (str x)], .bool B]) (fun _ _ v h => h.pure (by decide) (by decide) v) ?_ ?_
    · intro a' d' W hR hF
      simp only [FactsV, List.nil_append, List.cons_append, List.getD_cons_zero, List.getD_cons_succ, exists_eq_left, and_true, true_and, List.getElem?_toArray, List.getElem?_cons_zero, List.getElem?_cons_succ] at hF
      have hlk := HLK.out W hR.low
      refine ⟨?_, ?_⟩
      · simp [Region.wanted, yielded, hF]
      · go_simp
    iterate 3
      refine exV_pure (c := ?_) (fun _ _ v h => h.pure (by decide) (by decide) v) ?_ ?_
      rotate_left
      · intro a' d' W hR hF
        simp only [FactsV, List.nil_append, List.cons_append, List.getD_cons_zero, List.getD_cons_succ, exists_eq_left, and_true, true_and, List.getElem?_toArray, List.getElem?_cons_zero, List.getElem?_cons_succ] at hF
        refine ⟨?_, ?_⟩
        · simp [Region.wanted, yielded, hF]
        · go_simp
          with_reducible rfl
    refine exV_step (fun v => ∃ k, v = .pointer (some ⟨k, 0, none⟩)) (fun a' d' W hd hR hF => ?_) ?_
    · exact ⟨by simp [Region.wanted, yielded], .pointer (some ⟨W.heap.size, 0, none⟩), W.alloc (.cells #[.string ⟨#[]⟩] 65), by go_simp, ⟨_, rfl⟩, hR.make (by decide) hd⟩
    refine exV_store (fun a' d' W hd hR hF => ?_) ?_
    · skip
      simp only [FactsV, List.nil_append, List.cons_append, List.getD_cons_zero, List.getD_cons_succ, exists_eq_left, and_true, true_and, List.getElem?_toArray, List.getElem?_cons_zero, List.getElem?_cons_succ] at hF
      obtain ⟨⟨vx, ⟨gx, rfl⟩, t26, h11⟩, t195, _⟩ := hF
      obtain ⟨hgx, hs⟩ := hR.old hd h11
      have z0 := hs.cell 0
      have f0 := hs.warm 0
      refine ⟨by simp [Region.wanted, yielded], W.setCell ⟨gx, 0, none⟩ (.string (str x)), by go_simp, hR.put (by decide) h11 (hR.low.setCell (show wr.heap.size ≤ gx from hgx) _) (hs.put 0 _)⟩
    iterate 1
      refine exV_pure (c := ?_) (fun _ _ v h => h.pure (by decide) (by decide) v) ?_ ?_
      rotate_left
      · intro a' d' W hR hF
        simp only [FactsV, List.nil_append, List.cons_append, List.getD_cons_zero, List.getD_cons_succ, exists_eq_left, and_true, true_and, List.getElem?_toArray, List.getElem?_cons_zero, List.getElem?_cons_succ] at hF
        refine ⟨?_, ?_⟩
        · simp [Region.wanted, yielded, hF]
        · go_simp
          with_reducible rfl
    show ∀ d W, _ → _ → _
    intro d w2 hA2 hR2
    simp only [FinV, List.nil_append, List.cons_append, List.getD_cons_zero, List.getD_cons_succ, forall_eq, forall_const, true_implies, forall_exists_index, and_imp, Nat.reduceAdd, Array.getD_eq_getD_getElem?, List.getElem?_toArray, List.getElem?_cons_zero, List.getElem?_cons_succ, Option.getD_some]
    intro v gx hv h11
    subst hv
    obtain ⟨hgx, hs⟩ := hR2.done h11 (hA2 14 (by decide))
    have HB := Lib.hid hR2.low
    have HSX := Lib.hid hs
    have HGX := Lib.hid hgx
    clear hR2 hA2 h11 hs hgx
    intros
    rcases HXX.out with ⟨hB, hx⟩ | ⟨hB, hx⟩
    · subst hB
      have hjT : j < T.length := by
        rcases Nat.lt_or_ge j T.length with h | h
        · exact h
        · obtain rfl : j = T.length := by omega
          rw [HEND.out] at hx
          cases hx
      have hxj : x = T[j] := by
        have := HAT.out j hjT
        rw [hx] at this
        exact Option.some.inj this
      have hst : T.take (j + 1) = T.take j ++ [x] := by rw [hxj]; exact List.take_succ_eq_append_getElem hjT
      obtain ⟨hrow, hsr, hmm⟩ := hI.out
      have hsr2 := hsr.below HB.out
      have hmm2 : Many S w w2 := hmm.trans (Many.of_below S HB.out |>.mono fun _ _ h => h)
      obtain ⟨b0, b1, b2, b3, b4, b5, b6o, b7, b8, hl⟩ := hsr2.cells
      have b6 : w2.cell? ⟨g, 6, none⟩ = some (.int .i64 ((s.n : Int) + (j : Int))) := by rw [b6o]; rfl
      clear b6o
      have f6 := hsr2.sits.warm 6
      have hwx2 : wrap64 ((s.n : Int) + (j : Int) + 1) = (s.n : Int) + (j : Int) + 1 := by have := HKEY.out; unfold I64 at this; unfold wrap64; omega
      obtain ⟨W3, hW3⟩ : ∃ W, W = w2.setCell ⟨g, 6, none⟩ (.int .i64 ((s.n : Int) + (j : Int) + 1)) := ⟨_, rfl⟩
      have hsr3 := hsr2.cell 6 (.int .i64 ((s.n : Int) + (j : Int) + 1)) (s' := { toldJ s j with n := s.n + j + 1 }) rfl rfl rfl
      rw [← hW3] at hsr3
      have hsr3d : SR g p q m nn { toldJ s j with n := s.n + j + 1 } (fun k => S k ∧ k < w.heap.size) W3.drew := hsr3.1.drewN 1
      obtain ⟨W4, hdel, hm4, ht4⟩ := hsr3d.map.del HKEY.out (A' := (toldJ s (j + 1)).A) (fun i => by
        show (if i ≤ (s.n : Int) + ((j + 1 : Nat) : Int) then none else s.A i) = if i = (s.n : Int) + (j : Int) + 1 then none else if i ≤ (s.n : Int) + (j : Int) then none else s.A i
        by_cases e1 : i = (s.n : Int) + (j : Int) + 1
        · rw [if_pos e1, if_pos (by omega)]
        · rw [if_neg e1]
          by_cases e2 : i ≤ (s.n : Int) + (j : Int)
          · rw [if_pos e2, if_pos (by omega)]
          · rw [if_neg e2, if_neg (by omega)]) 0
      have hsr4 := hsr3d.ahead hm4 ht4
      have hgm : g < w.heap.size ∧ m < w.heap.size := ⟨hsr.g.2, hsr.m.2⟩
      have hs4 : Many (fun k => k = g ∨ k = m) w2 W4 := by
        have h := (Many.refl (fun k => k = g ∨ k = m) w2).store (.inl rfl) 6 (.int .i64 ((s.n : Int) + (j : Int) + 1))
        rw [← hW3] at h
        exact (show Many (fun k => k = g ∨ k = m) w2 W3.drew from h.drewN 1).turnedM ht4 (.inr rfl)
      have hw2 : w.heap.size ≤ w2.heap.size := hmm2.size
      have hwr : w.heap.size ≤ wr.heap.size := hmm.size
      have hgx : wr.heap.size ≤ gx := HGX.out
      have hx4 : Sits W4 gx 65 #[.string (str x)] := (hs4.block gx HSX.out.lt (by omega)).trans HSX.out
      have z0 : W4.cell? ⟨gx, 0, none⟩ = some (.string (str x)) := hx4.cell 0
      have hrow4 : TRow W4 w.heap.size (.slice A j cap) (T.take j) := (hrow.below HB.out).keep fun k hk => hs4.block k ((hrow.below HB.out).lt k hk).2 (by have := (hrow.lt k hk).1; omega)
      have htl : (T.take j).length = j := by rw [List.length_take]; omega
      have hmm4 : Many S w W4 := (show Many S w W3.drew from (hmm2.trans (hsr3.2.mono fun k _ hk => hk.1)).drewN 1).trans (hsr4.2.mono fun k _ hk => hk.1)
      obtain ⟨A3, c3, w5, hrun, hR5, hB5, hM5, -, -⟩ := pushS_one hrow4 x hmm4.size (by omega) 27
      rw [htl] at hrun hR5
      rw [← hst] at hR5
      have HY : Hid (TRow w5 w.heap.size (.slice A3 (j + 1) c3) (T.take (j + 1)) ∧ SR g p q m nn (toldJ s (j + 1)) (fun k => S k ∧ k < w.heap.size) w5 ∧ Many S w w5) := Lib.hid ⟨hR5, hsr4.1.keep fun k hk _ => hB5.block k hk.2, hmm4.trans (hM5.mono fun k _ hk => HS.out k (hrow4.lt k hk).1)⟩
      have HRUN := Lib.hid hrun
      have HJ := Lib.hid hjT
      have q7 := hsr3.1.cells.2.2.2.2.2.2.2.1
      have q6 : W3.cell? ⟨g, 6, none⟩ = some (.int .i64 ((s.n : Int) + (j : Int) + 1)) := hsr3.1.cells.2.2.2.2.2.2.1
      have ql := hsr3.1.sits.lt
      clear hrow hsr hmm hsr2 hmm2 hsr3 hsr3d hm4 ht4 hsr4 hgm hs4 hw2 hwr hx4 hrow4 htl hmm4 hR5 hB5 hM5 hst hjT hxj hx hI b0 b1 b2 b3 b4 b5 b7 b8 hrun hgx
      go_wp2_with fail
      rw [← hW3]
      clear hW3 b6 f6
      go_still_tail 8, (by kernel_rfl)
      go_wp2_with (at_builtin; refine wpList_append_eq rfl (.tmp 37) (.tmp 40) 27 27 rfl _ _ _ rfl rfl HRUN.out ?_)
      go_roundw
      case rel => exact ⟨j + 1, HJ.out, ⟨A3, c3, rfl⟩, HY⟩
      case measure => have := HJ.out; simp; omega
    · subst hB
      have hjT : j = T.length := by
        rcases Nat.lt_or_ge j T.length with h | h
        · have := HAT.out j h
          rw [hx] at this
          cases this
        · omega
      subst hjT
      have HZ : Hid (TRow w2 w.heap.size (.slice A T.length cap) T ∧ SR g p q m nn (toldS s) S w2 ∧ Many S w w2) := Lib.hid (by
        obtain ⟨hrow, hsr, hmm⟩ := hI.out
        rw [HL.out] at hsr
        rw [List.take_length] at hrow
        exact ⟨hrow.below HB.out, (hsr.below HB.out).mono fun k hk => hk.1, hmm.trans (Many.of_below S HB.out)⟩)
      clear hI HXX HSX
      go_wp2
      go_ret
      exact ⟨⟨_, rfl, HZ.out.1⟩, HZ.out.2⟩
end
end Go.Proofs.Ytbpcbdlmkoajdaa
