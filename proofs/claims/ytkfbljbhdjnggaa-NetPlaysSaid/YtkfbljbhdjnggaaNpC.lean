/- NetPlays' switch, a case each: Double, Swap, Clear, many Sends, Send. -/
import Derived.Test.YtkfbljbhdjnggaaNpB
namespace Go.Proofs.Ytkfbljbhdjnggaa
open Go Go.RowKit Go.Maps NetP
set_option maxRecDepth 1000000
set_option maxHeartbeats 4000000
set_option linter.unusedSimpArgs false

/-- What stands in a round, where more blocks (K) are kept. -/
structure StK (w wx : World) (g r : Nat) (K : Nat → Prop) (c : Nat) (L1 : List Pk) (C1 : List (Int × Int)) (L2 : List Pk) (C2 : List (Int × Int)) : Prop where
  nets : BN g r c L1 C1 L2 C2 (fun i => w.heap.size ≤ i ∧ ¬ K i) wx
  low : Below w.heap.size w wx
  kl : ∀ i, K i → i < wx.heap.size
section
variable {w wx wy w1 : World} {g r ob c c' : Nat} {K : Nat → Prop} {L1 L1' L2 L2' : List Pk} {C1 C1' C2 C2' : List (Int × Int)} {a : St14} {G : World → Prop} {F : FuncId} {args : Array Value} {res : Ending}
theorem StK.below (h : StK w wx g r K c L1 C1 L2 C2) (hb : Below wx.heap.size wx wy) : StK w wy g r K c L1 C1 L2 C2 :=
  ⟨(holdBN _ _ _ _ _ _ _).keep h.nets fun k _ hk => hb.block k hk, h.low.trans (hb.mono h.low.size), fun i hi => Nat.lt_of_lt_of_le (h.kl i hi) hb.size⟩
/-- What has come up since is kept, too. -/
theorem StK.guard (h : StK w wx g r K c L1 C1 L2 C2) (hb : Below wx.heap.size wx wy) : StK w wy g r (fun i => K i ∨ (wx.heap.size ≤ i ∧ i < wy.heap.size)) c L1 C1 L2 C2 :=
  ⟨(holdBN _ _ _ _ _ _ _).mono ((holdBN _ _ _ _ _ _ _).less ((holdBN _ _ _ _ _ _ _).keep ((holdBN _ _ _ _ _ _ _).less h.nets) (w' := wy) fun i hi _ => hb.block i hi.2)) fun _ hi => ⟨hi.1.1.1, fun e => e.elim hi.1.1.2 fun e => by have := hi.1.2; omega⟩, h.low.trans (hb.mono h.low.size), fun i hi => hi.elim (fun e => Nat.lt_of_lt_of_le (h.kl i e) hb.size) fun e => e.2⟩
theorem StN.toK (h : StN w wx g r ob c L1 C1 L2 C2 a) : StK w wx g r (fun i => i = ob) c L1 C1 L2 C2 :=
  ⟨h.nets, h.low, fun _ hi => hi ▸ h.op.lt⟩
theorem StK.call {B : (Nat → Prop) → World → Prop} (t : TurnsG G (BN g r c L1 C1 L2 C2) B F args res) (hi : ∀ S W, B S W → BN g r c' L1' C1' L2' C2' S W) (h : StK w wx g r K c L1 C1 L2 C2)
    (hG : ∀ w', Many (fun i => ¬ K i) wx w' → G w') :
    Calls Try.prog F args wx fun e w' => e = res ∧ StK w w' g r K c' L1' C1' L2' C2' ∧ Many (fun i => ¬ K i) wx w' := by
  have hkl := h.kl
  have hls := h.low.size
  refine (t _ wx (fun i hi => ⟨Nat.le_trans hls hi, fun e => by have := hkl i e; omega⟩) h.nets (fun w' hm => hG w' (hm.mono fun i _ hi => hi.2))).mono ?_
  rintro e w' ⟨he, hx, hm⟩
  exact ⟨he, ⟨hi _ _ hx, h.low.trans (hm.below (fun _ hi => hi.1) hls), fun i hi => Nat.lt_of_lt_of_le (h.kl i hi) hm.size⟩, hm.mono fun i _ hi => hi.2⟩
theorem StK.toN (h : StK w wx g r K c L1 C1 L2 C2) (hK : K ob) (op : Sits wx ob 37 (opC a)) (obl : w.heap.size ≤ ob) : StN w wx g r ob c L1 C1 L2 C2 a :=
  ⟨(holdBN _ _ _ _ _ _ _).mono h.nets fun _ hi => ⟨hi.1, fun e => hi.2 (e ▸ hK)⟩, h.low, op, obl⟩
end
theorem sw_double (f : Nat → Value) (w w3 : World) (g r ob c : Nat) (L : List Pk) (C : List (Int × Int)) (a : St14) (Q : Exit → Act → World → Prop) (hST : StN w w3 g r ob c L C L C a) (_hc : c ≤ 1000) (_hC : C.length ≤ 1000)
    (h5 : f 5 = .pointer (some ⟨g, 0, none⟩)) (h6 : f 6 = .pointer (some ⟨r, 0, none⟩)) (h8 : f 8 = .pointer (some ⟨ob, 0, none⟩)) (h9 : f 9 = .bool false) (h10 : f 10 = .bool false) (h50 : f 50 = .int .i64 a.k)
    (hQ : SwQ f w g r ob c C a Q) (hk : a.k = 4) : Code.wp Try.prog swL Q ⟨frame f, []⟩ w3 := by
  obtain ⟨o0, o1, o2, o3, ol⟩ := hST.cells
  have HST := Lib.hid hST
  have HQ := Lib.hid hQ
  have HL := Lib.hid hST.len
  have e1 : (a.k == 1) = false := by simp; omega
  have e2 : (a.k == 2) = false := by simp; omega
  have e3 : (a.k == 3) = false := by simp; omega
  have e4 : (a.k == 4) = true := by simp [hk]
  obtain ⟨B, hB⟩ : ∃ B, B = decide ((0 ≤ a.a ∧ a.a < (L.length : Int)) ∧ L.length < 900) := ⟨_, rfl⟩
  have hx : Hid (∀ W, StN w W g r ob c L C L C a → Calls Try.prog 19 #[.pointer (some ⟨g, 0, none⟩), .int .i64 a.a] W fun e w' => e = .returned (.bool B) ∧ StN w w' g r ob c (doubleL L a.a) C L C a) := Lib.hid fun W h => by
    rw [hB]
    exact h.at_ (L1' := doubleL L a.a) (C1' := C) (L2' := L) (C2' := C) (c' := c) ((tdouble (g := g) (c := c) (L := L) (C := C) a.a).left (holdNX _ _ _ _) (holdRN _ _ _))
  have hy : Hid (∀ W, StN w W g r ob c (doubleL L a.a) C L C a → Calls Try.prog 20 #[.pointer (some ⟨r, 0, none⟩), .int .i64 a.a] W fun e w' => e = .returned (.bool B) ∧ StN w w' g r ob c (doubleL L a.a) C (doubleL L a.a) C a) := Lib.hid fun W h => by
    rw [hB]
    exact h.at_ (L1' := doubleL L a.a) (C1' := C) (L2' := doubleL L a.a) (C2' := C) (c' := c) ((uDouble (r := r) (C := C) HL.out a.a).right (holdNX _ _ _ _) (holdRN _ _ _))
  clear hST hk hB
  unfold frame
  rw [h5, h6, h8, h9, h10, h50]
  clear h5 h6 h8 h9 h10 h50
  conv => arg 2; whnf
  go_wp2_with fail
  clear o0 o1 o2 o3 ol
  refine wp_region_exV (by kernel_rfl) (Cls 3 7 (fun W => StN w W g r ob c L C L C a) (fun W => StN w W g r ob c (doubleL L a.a) C L C a) (fun W => StN w W g r ob c (doubleL L a.a) C (doubleL L a.a) C a))
    [[(5, none)], [(8, none)], [(125, some 1)], [(124, some 0), (126, some 2)], [(6, none)], [(8, none)], [(129, some 5)], [(128, some 4), (130, some 6)], [(127, some 3)], [(131, some 7)]]
    [none, none, none, none, none, none, none, none, none, some 8, some 9, none, none, none, none, none, none, none, none, none, none, none, none, none, none, none, none, none, none, none, none, none, none, none, none, none, none, none, none, none, none, none, none, none, none, none, none, none, none, none, none, none, none, none, none, none, none, none, none, none, none, none, none, none, none, none, none, none, none, none, none, none, none, none, none, none, none, none, none, none, none, none, none, none, none, none, none, none, none, none, none, none, none, none, none, none, none, none, none, none, none, none, none, none, none, none, none, none, none, none, none, none, none, none, none, none, none, none, none, none, none, none, none, none, some 0, some 1, some 2, some 3, some 4, some 5, some 6, some 7, none, none, none, none, none, none, none, none, none, none, none, none, none, none, none, none, none, none, none, none, none, none, none, none, none, none, none, none, none, none, none, none, none, none, none, none, none, none, none, none, none, none, none, none, none, none, none, none, none, none, none, none, none, none, none, none, none, none, none, none, none, none, none, none, none, none, none, none, none, none, none, none, none, none, none, none, none, none, none, none, none, none, none, none, none, none, none, none, none, none, none, none, none, none, none, none, none, none, none, none, none, none, none, none, none, none, none, none, none, none, none, none, none, none, none, none, none, none, none, none, none, none, none, none, none, none, none, none, none, none, none, none] (by kernel_rfl) (by kernel_rfl) (Cls.start (HST.out.below (Below.refl _ _).drew)) ?_
  iterate 3
    refine exV_pure (c := ?_) (fun _ _ _ h => h.pure (by decide) (by decide)) ?_ ?_
    rotate_left
    · intro a' d' W hR hF
      simp only [FactsV, List.nil_append, List.cons_append, List.getD_cons_zero, List.getD_cons_succ, exists_eq_left, and_true, true_and, List.getElem?_toArray, List.getElem?_cons_zero, List.getElem?_cons_succ] at hF
      obtain ⟨p0, p1, p2, p3, pl⟩ := hR.all (C := fun W => W.cell? ⟨ob, 0, none⟩ = some (.int .i64 a.k) ∧ W.cell? ⟨ob, 1, none⟩ = some (.int .i64 a.a) ∧ W.cell? ⟨ob, 2, none⟩ = some (.int .i64 a.b) ∧ W.cell? ⟨ob, 3, none⟩ = some a.s ∧ ob < W.heap.size) (fun _ h => h.cells) (fun _ h => h.cells) (fun _ h => h.cells)
      refine ⟨?_, ?_⟩
      · simp [Region.wanted, yielded, hF]
      · go_simp
        with_reducible rfl
  refine exV_callv (fun x => x = .bool B) (fun a' d' W hd hR hF => ?_) ?_
  · skip
    simp only [FactsV, List.nil_append, List.cons_append, List.getD_cons_zero, List.getD_cons_succ, exists_eq_left, and_true, true_and, List.getElem?_toArray, List.getElem?_cons_zero, List.getElem?_cons_succ] at hF
    exact ⟨by simp [Region.wanted, yielded, hF], 19, #[.pointer (some ⟨g, 0, none⟩), .int .i64 a.a], by go_simp, (hx.out W (hR.ahead hd)).mono fun e w' ⟨he, hs⟩ => ⟨_, he, hR.one hd (by decide) hs, rfl⟩⟩
  iterate 3
    refine exV_pure (c := ?_) (fun _ _ _ h => h.pure (by decide) (by decide)) ?_ ?_
    rotate_left
    · intro a' d' W hR hF
      simp only [FactsV, List.nil_append, List.cons_append, List.getD_cons_zero, List.getD_cons_succ, exists_eq_left, and_true, true_and, List.getElem?_toArray, List.getElem?_cons_zero, List.getElem?_cons_succ] at hF
      obtain ⟨p0, p1, p2, p3, pl⟩ := hR.all (C := fun W => W.cell? ⟨ob, 0, none⟩ = some (.int .i64 a.k) ∧ W.cell? ⟨ob, 1, none⟩ = some (.int .i64 a.a) ∧ W.cell? ⟨ob, 2, none⟩ = some (.int .i64 a.b) ∧ W.cell? ⟨ob, 3, none⟩ = some a.s ∧ ob < W.heap.size) (fun _ h => h.cells) (fun _ h => h.cells) (fun _ h => h.cells)
      refine ⟨?_, ?_⟩
      · simp [Region.wanted, yielded, hF]
      · go_simp
        with_reducible rfl
  refine exV_callA (fun x => x = .bool B) (fun a' d' W hd hA hR hF => ?_) ?_
  · skip
    simp only [FactsV, List.nil_append, List.cons_append, List.getD_cons_zero, List.getD_cons_succ, exists_eq_left, and_true, true_and, List.getElem?_toArray, List.getElem?_cons_zero, List.getElem?_cons_succ] at hF
    obtain ⟨x0, hx0⟩ := Option.isSome_iff_exists.1 (hA ⟨3, .chain⟩ (by simp) (by decide))
    exact ⟨by simp [Region.wanted, yielded, hF], 20, #[.pointer (some ⟨r, 0, none⟩), .int .i64 a.a], by go_simp, (hy.out W (hR.between hx0 hd)).mono fun e w' ⟨he, hs⟩ => ⟨_, he, Cls.two hx0 (by decide) hs, rfl⟩⟩
  iterate 2
    refine exV_pure (c := ?_) (fun _ _ _ h => h.pure (by decide) (by decide)) ?_ ?_
    rotate_left
    · intro a' d' W hR hF
      simp only [FactsV, List.nil_append, List.cons_append, List.getD_cons_zero, List.getD_cons_succ, exists_eq_left, and_true, true_and, List.getElem?_toArray, List.getElem?_cons_zero, List.getElem?_cons_succ] at hF
      refine ⟨?_, ?_⟩
      · simp [Region.wanted, yielded, hF]
      · go_simp
        with_reducible rfl
  show ∀ d W, _ → _ → _
  intro d w5 hA2 hR2
  simp only [FinV, List.nil_append, List.cons_append, List.getD_cons_zero, List.getD_cons_succ, forall_eq, forall_const, true_implies, forall_exists_index, and_imp, Nat.reduceAdd, Array.getD_eq_getD_getElem?, List.getElem?_toArray, List.getElem?_cons_zero, List.getElem?_cons_succ, Option.getD_some]
  have H5 := Lib.hid (hR2.done (hA2 7 (by decide)))
  clear hR2 hA2 hx hy HST
  intros
  go_wp2_with fail
  exact HQ.out _ _ _ _ _ _ ⟨rfl, rfl, rfl, rfl, rfl, rfl, rfl, rfl, rfl⟩ (Nat.le_succ _) (Nat.le_succ _) H5.out
theorem sw_swap (f : Nat → Value) (w w3 : World) (g r ob c : Nat) (L : List Pk) (C : List (Int × Int)) (a : St14) (Q : Exit → Act → World → Prop) (hST : StN w w3 g r ob c L C L C a) (_hc : c ≤ 1000) (_hC : C.length ≤ 1000)
    (h5 : f 5 = .pointer (some ⟨g, 0, none⟩)) (h6 : f 6 = .pointer (some ⟨r, 0, none⟩)) (h8 : f 8 = .pointer (some ⟨ob, 0, none⟩)) (h9 : f 9 = .bool false) (h10 : f 10 = .bool false) (h50 : f 50 = .int .i64 a.k)
    (hQ : SwQ f w g r ob c C a Q) (hk : a.k = 5) : Code.wp Try.prog swL Q ⟨frame f, []⟩ w3 := by
  obtain ⟨o0, o1, o2, o3, ol⟩ := hST.cells
  have HST := Lib.hid hST
  have HQ := Lib.hid hQ
  have HL := Lib.hid hST.len
  have e1 : (a.k == 1) = false := by simp; omega
  have e2 : (a.k == 2) = false := by simp; omega
  have e3 : (a.k == 3) = false := by simp; omega
  have e4 : (a.k == 4) = false := by simp; omega
  have e5 : (a.k == 5) = true := by simp [hk]
  obtain ⟨B, hB⟩ : ∃ B, B = decide ((0 ≤ a.a ∧ a.a < (L.length : Int)) ∧ (0 ≤ a.b ∧ a.b < (L.length : Int))) := ⟨_, rfl⟩
  have hx : Hid (∀ W, StN w W g r ob c L C L C a → Calls Try.prog 21 #[.pointer (some ⟨g, 0, none⟩), .int .i64 a.a, .int .i64 a.b] W fun e w' => e = .returned (.bool B) ∧ StN w w' g r ob c (swapL L a.a a.b) C L C a) := Lib.hid fun W h => by
    rw [hB]
    exact h.at_ (L1' := swapL L a.a a.b) (C1' := C) (L2' := L) (C2' := C) (c' := c) ((tswap (g := g) (c := c) (L := L) (C := C) a.a a.b).left (holdNX _ _ _ _) (holdRN _ _ _))
  have hy : Hid (∀ W, StN w W g r ob c (swapL L a.a a.b) C L C a → Calls Try.prog 22 #[.pointer (some ⟨r, 0, none⟩), .int .i64 a.a, .int .i64 a.b] W fun e w' => e = .returned (.bool B) ∧ StN w w' g r ob c (swapL L a.a a.b) C (swapL L a.a a.b) C a) := Lib.hid fun W h => by
    rw [hB]
    exact h.at_ (L1' := swapL L a.a a.b) (C1' := C) (L2' := swapL L a.a a.b) (C2' := C) (c' := c) ((uSwap (r := r) (C := C) HL.out a.a a.b).right (holdNX _ _ _ _) (holdRN _ _ _))
  clear hST hk hB
  unfold frame
  rw [h5, h6, h8, h9, h10, h50]
  clear h5 h6 h8 h9 h10 h50
  conv => arg 2; whnf
  go_wp2_with fail
  clear o0 o1 o2 o3 ol
  refine wp_region_exV (by kernel_rfl) (Cls 5 11 (fun W => StN w W g r ob c L C L C a) (fun W => StN w W g r ob c (swapL L a.a a.b) C L C a) (fun W => StN w W g r ob c (swapL L a.a a.b) C (swapL L a.a a.b) C a))
    [[(5, none)], [(8, none)], [(135, some 1)], [(8, none)], [(137, some 3)], [(134, some 0), (136, some 2), (138, some 4)], [(6, none)], [(8, none)], [(141, some 7)], [(8, none)], [(143, some 9)], [(140, some 6), (142, some 8), (144, some 10)], [(139, some 5)], [(145, some 11)]]
    [none, none, none, none, none, none, none, none, none, some 12, some 13, none, none, none, none, none, none, none, none, none, none, none, none, none, none, none, none, none, none, none, none, none, none, none, none, none, none, none, none, none, none, none, none, none, none, none, none, none, none, none, none, none, none, none, none, none, none, none, none, none, none, none, none, none, none, none, none, none, none, none, none, none, none, none, none, none, none, none, none, none, none, none, none, none, none, none, none, none, none, none, none, none, none, none, none, none, none, none, none, none, none, none, none, none, none, none, none, none, none, none, none, none, none, none, none, none, none, none, none, none, none, none, none, none, none, none, none, none, none, none, none, none, none, none, some 0, some 1, some 2, some 3, some 4, some 5, some 6, some 7, some 8, some 9, some 10, some 11, none, none, none, none, none, none, none, none, none, none, none, none, none, none, none, none, none, none, none, none, none, none, none, none, none, none, none, none, none, none, none, none, none, none, none, none, none, none, none, none, none, none, none, none, none, none, none, none, none, none, none, none, none, none, none, none, none, none, none, none, none, none, none, none, none, none, none, none, none, none, none, none, none, none, none, none, none, none, none, none, none, none, none, none, none, none, none, none, none, none, none, none, none, none, none, none, none, none, none, none, none, none, none, none, none, none, none, none, none, none, none, none, none, none, none, none, none, none] (by kernel_rfl) (by kernel_rfl) (Cls.start (HST.out.below (Below.refl _ _).drew)) ?_
  iterate 5
    refine exV_pure (c := ?_) (fun _ _ _ h => h.pure (by decide) (by decide)) ?_ ?_
    rotate_left
    · intro a' d' W hR hF
      simp only [FactsV, List.nil_append, List.cons_append, List.getD_cons_zero, List.getD_cons_succ, exists_eq_left, and_true, true_and, List.getElem?_toArray, List.getElem?_cons_zero, List.getElem?_cons_succ] at hF
      obtain ⟨p0, p1, p2, p3, pl⟩ := hR.all (C := fun W => W.cell? ⟨ob, 0, none⟩ = some (.int .i64 a.k) ∧ W.cell? ⟨ob, 1, none⟩ = some (.int .i64 a.a) ∧ W.cell? ⟨ob, 2, none⟩ = some (.int .i64 a.b) ∧ W.cell? ⟨ob, 3, none⟩ = some a.s ∧ ob < W.heap.size) (fun _ h => h.cells) (fun _ h => h.cells) (fun _ h => h.cells)
      refine ⟨?_, ?_⟩
      · simp [Region.wanted, yielded, hF]
      · go_simp
        with_reducible rfl
  refine exV_callv (fun x => x = .bool B) (fun a' d' W hd hR hF => ?_) ?_
  · skip
    simp only [FactsV, List.nil_append, List.cons_append, List.getD_cons_zero, List.getD_cons_succ, exists_eq_left, and_true, true_and, List.getElem?_toArray, List.getElem?_cons_zero, List.getElem?_cons_succ] at hF
    exact ⟨by simp [Region.wanted, yielded, hF], 21, #[.pointer (some ⟨g, 0, none⟩), .int .i64 a.a, .int .i64 a.b], by go_simp, (hx.out W (hR.ahead hd)).mono fun e w' ⟨he, hs⟩ => ⟨_, he, hR.one hd (by decide) hs, rfl⟩⟩
  iterate 5
    refine exV_pure (c := ?_) (fun _ _ _ h => h.pure (by decide) (by decide)) ?_ ?_
    rotate_left
    · intro a' d' W hR hF
      simp only [FactsV, List.nil_append, List.cons_append, List.getD_cons_zero, List.getD_cons_succ, exists_eq_left, and_true, true_and, List.getElem?_toArray, List.getElem?_cons_zero, List.getElem?_cons_succ] at hF
      obtain ⟨p0, p1, p2, p3, pl⟩ := hR.all (C := fun W => W.cell? ⟨ob, 0, none⟩ = some (.int .i64 a.k) ∧ W.cell? ⟨ob, 1, none⟩ = some (.int .i64 a.a) ∧ W.cell? ⟨ob, 2, none⟩ = some (.int .i64 a.b) ∧ W.cell? ⟨ob, 3, none⟩ = some a.s ∧ ob < W.heap.size) (fun _ h => h.cells) (fun _ h => h.cells) (fun _ h => h.cells)
      refine ⟨?_, ?_⟩
      · simp [Region.wanted, yielded, hF]
      · go_simp
        with_reducible rfl
  refine exV_callA (fun x => x = .bool B) (fun a' d' W hd hA hR hF => ?_) ?_
  · skip
    simp only [FactsV, List.nil_append, List.cons_append, List.getD_cons_zero, List.getD_cons_succ, exists_eq_left, and_true, true_and, List.getElem?_toArray, List.getElem?_cons_zero, List.getElem?_cons_succ] at hF
    obtain ⟨x0, hx0⟩ := Option.isSome_iff_exists.1 (hA ⟨5, .chain⟩ (by simp) (by decide))
    exact ⟨by simp [Region.wanted, yielded, hF], 22, #[.pointer (some ⟨r, 0, none⟩), .int .i64 a.a, .int .i64 a.b], by go_simp, (hy.out W (hR.between hx0 hd)).mono fun e w' ⟨he, hs⟩ => ⟨_, he, Cls.two hx0 (by decide) hs, rfl⟩⟩
  iterate 2
    refine exV_pure (c := ?_) (fun _ _ _ h => h.pure (by decide) (by decide)) ?_ ?_
    rotate_left
    · intro a' d' W hR hF
      simp only [FactsV, List.nil_append, List.cons_append, List.getD_cons_zero, List.getD_cons_succ, exists_eq_left, and_true, true_and, List.getElem?_toArray, List.getElem?_cons_zero, List.getElem?_cons_succ] at hF
      refine ⟨?_, ?_⟩
      · simp [Region.wanted, yielded, hF]
      · go_simp
        with_reducible rfl
  show ∀ d W, _ → _ → _
  intro d w5 hA2 hR2
  simp only [FinV, List.nil_append, List.cons_append, List.getD_cons_zero, List.getD_cons_succ, forall_eq, forall_const, true_implies, forall_exists_index, and_imp, Nat.reduceAdd, Array.getD_eq_getD_getElem?, List.getElem?_toArray, List.getElem?_cons_zero, List.getElem?_cons_succ, Option.getD_some]
  have H5 := Lib.hid (hR2.done (hA2 11 (by decide)))
  clear hR2 hA2 hx hy HST
  intros
  go_wp2_with fail
  exact HQ.out _ _ _ _ _ _ ⟨rfl, rfl, rfl, rfl, rfl, rfl, rfl, rfl, rfl⟩ (Nat.le_succ _) (Nat.le_succ _) H5.out
theorem sw_clear (f : Nat → Value) (w w3 : World) (g r ob c : Nat) (L : List Pk) (C : List (Int × Int)) (a : St14) (Q : Exit → Act → World → Prop) (hST : StN w w3 g r ob c L C L C a) (_hc : c ≤ 1000) (_hC : C.length ≤ 1000)
    (h5 : f 5 = .pointer (some ⟨g, 0, none⟩)) (h6 : f 6 = .pointer (some ⟨r, 0, none⟩)) (h8 : f 8 = .pointer (some ⟨ob, 0, none⟩)) (h9 : f 9 = .bool false) (h10 : f 10 = .bool false) (h50 : f 50 = .int .i64 a.k)
    (hQ : SwQ f w g r ob c C a Q) (hk : a.k = 8) : Code.wp Try.prog swL Q ⟨frame f, []⟩ w3 := by
  obtain ⟨o0, o1, o2, o3, ol⟩ := hST.cells
  have HST := Lib.hid hST
  have HQ := Lib.hid hQ
  have HL := Lib.hid hST.len
  have e1 : (a.k == 1) = false := by simp; omega
  have e2 : (a.k == 2) = false := by simp; omega
  have e3 : (a.k == 3) = false := by simp; omega
  have e4 : (a.k == 4) = false := by simp; omega
  have e5 : (a.k == 5) = false := by simp; omega
  have e6 : (a.k == 6) = false := by simp; omega
  have e7 : (a.k == 7) = false := by simp; omega
  have e8 : (a.k == 8) = true := by simp [hk]
  have hll : (L.length : Int) ≤ 900 := by have := HL.out; omega
  have hcl : ∃ u : Option Addr × Nat, w3.cell? ⟨r, 0, none⟩ = some (.slice u.1 L.length u.2) ∧ r < w3.heap.size ∧ w3.frozen? ⟨r, 0, none⟩ = false := by
    obtain ⟨S, u, d, h1, _, h2, _⟩ := hST.ref
    obtain ⟨A, cap, rfl, _⟩ := h2.form
    exact ⟨(A, cap), h1.cell 0, h1.lt, h1.warm 0⟩
  obtain ⟨⟨A, cap⟩, c0, crl, cf⟩ := hcl
  simp only at c0
  have hn : StN w (w3.setCell ⟨r, 0, none⟩ (.slice none 0 0)) g r ob c L C [] C a := by
    obtain ⟨S1, S2, h1, ⟨u, d, k1, k2, k3, k4, k5, k6⟩, h3, h4⟩ := hST.nets
    have hne : ob ≠ r := fun e => (h4 r (.inr k2)).2 e.symm
    refine ⟨⟨S1, S2, (holdNX _ _ _ _).keep h1 fun k hk _ => Below.heap_setCell _ _ _ _ (show k ≠ r from fun e => h3 k hk (e ▸ k2)), ⟨.slice none 0 0, d, k1.put 0 _, k2, RowAt.nil _ _ _ _, fun b hb => by simp [Value.ownBlock] at hb, k5.keep fun b hb => Below.heap_setCell _ _ _ _ (show b ≠ r from ?_), k6⟩, h3, h4⟩, ?_, hST.op.away (p := ⟨r, 0, none⟩) hne _, hST.obl⟩
    · obtain ⟨cu, su⟩ := k5.sits b hb
      exact su.apart k1 (by decide)
    · exact below_put hST.low (h4 r (.inr k2)).1 0 _
  have T1 := Lib.hid (hn.at_ (L1' := []) (C1' := C) (L2' := []) (C2' := C) (c' := c) ((tclear (g := g) (c := c) (L := L) (C := C)).left (holdNX _ _ _ _) (holdRN _ _ _)))
  clear hST hQ hk hn
  unfold frame
  rw [h5, h6, h8, h9, h10, h50]
  clear h5 h6 h8 h9 h10 h50
  conv => arg 2; whnf
  go_wp2_with fail
  refine T1.out.mono ?_
  rintro e w4 ⟨rfl, h4⟩
  have H4 := Lib.hid h4
  clear h4 T1 c0 cf o0 o1 o2 o3 ol
  go_wp2_with fail
  exact HQ.out _ _ _ _ _ _ ⟨rfl, rfl, rfl, rfl, rfl, rfl, rfl, rfl, rfl⟩ (Nat.le_succ _) (Nat.le_succ _) H4.out
end Go.Proofs.Ytkfbljbhdjnggaa
