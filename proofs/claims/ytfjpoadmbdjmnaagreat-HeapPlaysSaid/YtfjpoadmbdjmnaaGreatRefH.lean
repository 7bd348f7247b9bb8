/- commonsref1's Heap in memory, as the list that it holds. -/
import Derived.Test.YtfjpoadmbdjmnaaGreatHeapFI
import Derived.Test.YtfjpoadmbdjmnaaGreatTail
namespace Go.Proofs.YtfjpoadmbdjmnaaGreat
open Go Go.RowKit HeapP
set_option maxRecDepth 100000
set_option maxHeartbeats 1000000
set_option linter.unusedSimpArgs false

/-- At h lies the document's own heap: its list, as it is told, and the id that was given last. -/
structure RefAt (w : World) (h lo : Nat) (last : Int) (L : List (HeapP.It Int)) : Prop where
  rows : ∃ v, Sits w h 29 #[v, .int .i64 last] ∧ w.ownsRow lo 57 3 v L.length (flatI L)
  lo_h : lo ≤ h
theorem wait_row {w : World} {v : Value} {lo : Nat} {L : List (HeapP.It Int)} (h : w.ownsRow lo 57 3 v L.length (flatI L)) : ∃ A cap, v = .slice A L.length cap ∧ L.length ≤ cap ∧ (cap : Int) ≤ 9223372036854775807 ∧
    (0 < L.length → ∃ g, A = some ⟨g, 0, none⟩ ∧ ∀ i, i < L.length → ∀ j u, (encI (gt L i))[j]? = some u → w.cell? ⟨g, i * 3 + j, none⟩ = some u) := by
  have hmx : maxLen = 9223372036854775807 := by decide
  obtain ⟨_, ⟨rfl, h0⟩ | ⟨g, cap, cur, e, h1, h2, h3, h4, h5, h6⟩⟩ := h
  · exact ⟨none, 0, by rw [h0], by omega, by omega, fun h => by omega⟩
  · refine ⟨_, cap, e, h3, by omega, fun _ => ⟨g, rfl, fun i hi j u hu => ?_⟩⟩
    have hj : j < 3 := (List.getElem?_eq_some_iff.1 hu).1
    have := hu
    rw [← flatI_at L i j hi hj, ← h6, List.getElem?_take, if_pos (by omega), Array.getElem?_toList] at this
    rw [cell_of_row w g _ cur _ _ h2]
    exact this
theorem reffind_any (h lo : Nat) (last : Int) (L : List (HeapP.It Int)) (id : Int) (w : World) (hR : RefAt w h lo last L) (hL : L.length ≤ 1000000) :
    Calls Tryz.prog 10 #[.pointer (some ⟨h, 0, none⟩), .int .i64 id] w fun e w' => w = w' ∧ ((∃ k : Nat, e = .returned (.int .i64 k) ∧ k < L.length ∧ (gt L k).id = id) ∨ (e = .returned (.int .i64 (-1)) ∧ ∀ y ∈ L, y.id ≠ id)) := by
  obtain ⟨v, hs, hr⟩ := hR.rows
  obtain ⟨A, cap, rfl, h1, h2, h3⟩ := wait_row hr
  have c0 := hs.cell 0
  simp at c0
  have H3 := Lib.hid h3
  clear hR hs hr h3
  go_enter Tryz.func10, Tryz.ntmps10
  go_wp2_with fail
  go_loopw [5] (fun i wr => ∃ k : Nat, k ≤ L.length ∧ i = .int .i64 k ∧ wr = w ∧ ∀ j, j < k → (gt L j).id ≠ id) (fun i _ => L.length - (intOf i).toNat)
  case atStart => exact ⟨0, by omega, rfl, rfl, fun j hj => by omega⟩
  case round =>
    obtain ⟨k, hk, rfl, rfl, hno⟩ := hrel
    have HNO := Lib.hid hno
    clear hno
    by_cases hlt : k < L.length
    · obtain ⟨g, rfl, hat⟩ := H3.out (by omega)
      have d1 := hat k hlt 1 _ rfl
      have hlim : (L.length : Int) ≤ 1000000 := by omega
      have e1 : IntKind.i64.wrap ((k : Int) + 1) = ((k + 1 : Nat) : Int) := by rw [IntWalk.i64_in _ (by omega)]; omega
      obtain ⟨y, hy⟩ : ∃ y, y = gt L k := ⟨_, rfl⟩
      rw [← hy] at d1
      have HY := Lib.hid hy
      clear hat hy
      by_cases hid : y.id = id
      · have g1 : (y.id == id) = true := by simp [hid]
        have HID := Lib.hid hid
        clear hid
        have g2 : decide (y.id = id) = true := decide_eq_true HID.out
        go_wp2
        go_ret
        exact ⟨by first | rfl | trivial, .inl ⟨k, by first | rfl | trivial, hlt, by rw [← HY.out]; exact HID.out⟩⟩
      · have g1 : (y.id == id) = false := by simp [hid]
        have g2 : decide (y.id = id) = false := decide_eq_false hid
        have HID := Lib.hid hid
        clear hid
        go_wp2
        go_roundw
        case rel => exact ⟨k + 1, by omega, by go_num, by first | rfl | trivial, fun j hj => by
          by_cases e : j = k
          · subst e; rw [← HY.out]; exact HID.out
          · exact HNO.out j (by omega)⟩
        case measure => simp [intOf]; omega
    · have hkl : k = L.length := by omega
      have HK := Lib.hid hkl
      clear hkl
      go_wp2
      go_ret
      refine ⟨rfl, .inr ⟨rfl, fun y hy e => ?_⟩⟩
      obtain ⟨j, hj, ej⟩ := List.getElem_of_mem hy
      exact HNO.out j (by rw [HK.out]; exact hj) (by rw [gt_elem L hj, ej]; exact e)
theorem info_wait : (Tryz.prog.info? 57).map (fun i => (i.zero, i.size, i.bytes)) = some (some (.agg #[.int .i64 0, .int .i64 0, .int .i64 0]), 3, 24) := by kernel_rfl
theorem elem_wait : Elem Tryz.prog 27 57 (.agg #[.int .i64 0, .int .i64 0, .int .i64 0]) 3 24 := ⟨Tryz.underlying27, info_wait, rfl, by omega⟩
def StaysW (B k : Nat) (L : List (HeapP.It Int)) (W W' : World) : Prop :=
  (∀ v, W.ownsRow B 57 3 v k (flatI (L.take k)) → W'.ownsRow B 57 3 v k (flatI (L.take k))) ∧
  ∀ v, W.ownsRow B 57 3 v (L.length - 1) (flatI (L.take k ++ L.drop (k + 1))) → W'.ownsRow B 57 3 v (L.length - 1) (flatI (L.take k ++ L.drop (k + 1)))
theorem staysW_refl {B k : Nat} {L : List (HeapP.It Int)} (W : World) : StaysW B k L W W := ⟨fun _ h => h, fun _ h => h⟩
theorem staysW_below {B k : Nat} {L : List (HeapP.It Int)} {W W' : World} (h : Below W.heap.size W W') : StaysW B k L W W' := ⟨fun _ h' => own_stays h' h.block, fun _ h' => own_stays h' h.block⟩
theorem flat_app (a b : List (HeapP.It Int)) : flatI (a ++ b) = flatI a ++ flatI b := by simp [flatI]
theorem flat_at_drop (L : List (HeapP.It Int)) (a j : Nat) : (flatI (L.drop a))[j]? = (flatI L)[a * 3 + j]? := by
  have h := flat_app (L.take a) (L.drop a)
  rw [List.take_append_drop] at h
  by_cases ha : a ≤ L.length
  · rw [h, List.getElem?_append_right (by rw [flatI_len]; simp; omega), flatI_len]
    congr 1
    simp; omega
  · rw [List.drop_eq_nil_of_le (by omega), List.getElem?_eq_none (by simp [flatI]), List.getElem?_eq_none (by rw [flatI_len]; omega)]
theorem flat_at_take (L : List (HeapP.It Int)) (a j : Nat) (u : Value) (hu : (flatI (L.take a))[j]? = some u) : (flatI L)[j]? = some u := by
  have h := flat_app (L.take a) (L.drop a)
  rw [List.take_append_drop] at h
  rw [h, List.getElem?_append_left (List.getElem?_eq_some_iff.1 hu).1]
  exact hu
theorem cells_of {w : World} {g : Nat} {L : List (HeapP.It Int)} (h : ∀ i, i < L.length → ∀ j u, (encI (gt L i))[j]? = some u → w.cell? ⟨g, i * 3 + j, none⟩ = some u) (q : Nat) (u : Value) (hu : (flatI L)[q]? = some u) : w.cell? ⟨g, q, none⟩ = some u := by
  have hq : q < L.length * 3 := by have := (List.getElem?_eq_some_iff.1 hu).1; rwa [flatI_len] at this
  have e : q = q / 3 * 3 + q % 3 := by omega
  rw [e] at hu ⊢
  rw [flatI_at L _ _ (by omega) (by omega)] at hu
  exact h _ (by omega) _ u hu
theorem refout_any (h lo : Nat) (last : Int) (L : List (HeapP.It Int)) (k : Nat) (w : World) (hR : RefAt w h lo last L) (hL : L.length ≤ 1000000) (hk : k < L.length) (hlo : lo ≤ w.heap.size) :
    Calls Tryz.prog 9 #[.pointer (some ⟨h, 0, none⟩), .int .i64 k] w fun e w' => e = .returned (.tuple #[]) ∧ RefAt w' h lo last (L.take k ++ L.drop (k + 1)) ∧ Only h w w' ∧ Below lo w w' := by
  obtain ⟨v, hs, hr⟩ := hR.rows
  obtain ⟨A, cap, rfl, h1, h2, h3⟩ := wait_row hr
  obtain ⟨g, rfl, hat⟩ := h3 (by omega)
  have hmx : maxLen = 9223372036854775807 := by decide
  have hgl : g < w.heap.size := World.block_lt_of_cell? _ _ (hat k hk 0 _ rfl)
  have C0 := Lib.hid (show w.cell? ⟨h, 0, none⟩ = some (.slice (some ⟨g, 0, none⟩) L.length cap) from (hs.cell 0).trans rfl)
  have HLT := Lib.hid hs.lt
  have HS := Lib.hid hs
  have HLO := Lib.hid (And.intro hR.lo_h hlo)
  have e1 : IntKind.i64.wrap ((k : Int) + 1) = ((k + 1 : Nat) : Int) := by rw [IntWalk.i64_in _ (by omega)]; omega
  have first : ∀ W, Below w.heap.size w W → ∃ r W', (Builtin.append_ #[27, 27] 27 #[.slice none 0 0, .slice (some ⟨g, 0, none⟩) k cap]).run Tryz.prog W = .ok r W' ∧ Below w.heap.size w W' ∧ StaysW w.heap.size k L W W' ∧
      W'.ownsRow w.heap.size 57 3 r k (flatI (L.take k)) ∧ (k = 0 → r = .slice none 0 0) := fun W hW => by
    have src : Src Tryz.prog 3 27 (.slice (some ⟨g, 0, none⟩) k cap) k (flatI (L.take k)) W := src_slice Tryz.underlying27 (by rw [flatI_len]; simp; omega)
      (fun _ => ⟨g, 0, rfl, fun j u hu => (hW.cell (p := ⟨g, 0 + j, none⟩) hgl).trans (by rw [Nat.zero_add]; exact cells_of hat j u (flat_at_take L k j u hu))⟩) (flatI_one _)
    by_cases h0 : k = 0
    · have e : flatI (L.take k) = [] := by rw [h0]; rfl
      rw [e, h0] at src
      refine ⟨.slice none 0 0, W, ?_, hW, staysW_refl W, ?_, fun _ => rfl⟩
      · have := append_none elem_wait src 27
        rw [h0]
        exact this
      · rw [e, h0]; exact World.ownsRow_nil _ _ _ _
    · obtain ⟨r, W', a1, a2, a3, a4, _, a6⟩ := append_src2 (base := w.heap.size) elem_wait (World.ownsRow_nil W w.heap.size 57 3) src 27 (by omega) (by omega) hW.size
      have hb := (Below.refl W.heap.size W).grown a3 (Nat.le_refl _) (by simp [Value.ownBlock])
      rw [Nat.zero_add, List.nil_append] at a2
      exact ⟨r, W', a1, hW.trans (hb.mono hW.size), staysW_below hb, a2, fun h => absurd h h0⟩
  have second : ∀ W v0, Below w.heap.size w W → W.ownsRow w.heap.size 57 3 v0 k (flatI (L.take k)) → (k = 0 → v0 = .slice none 0 0) → ∃ r W', (Builtin.append_ #[27, 27] 27 #[v0, .slice (if cap = k + 1 then some ⟨g, 0, none⟩ else some ⟨g, (k + 1) * 3, none⟩) (L.length - (k + 1)) (cap - (k + 1))]).run Tryz.prog W = .ok r W' ∧
      Below w.heap.size w W' ∧ StaysW w.heap.size k L W W' ∧ W'.ownsRow w.heap.size 57 3 r (L.length - 1) (flatI (L.take k ++ L.drop (k + 1))) := fun W v0 hW hv hv0 => by
    have hfl : flatI (L.take k ++ L.drop (k + 1)) = flatI (L.take k) ++ flatI (L.drop (k + 1)) := flat_app _ _
    have src : Src Tryz.prog 3 27 (.slice (if cap = k + 1 then some ⟨g, 0, none⟩ else some ⟨g, (k + 1) * 3, none⟩) (L.length - (k + 1)) (cap - (k + 1))) (L.length - (k + 1)) (flatI (L.drop (k + 1))) W := src_slice Tryz.underlying27 (by rw [flatI_len]; simp)
      (fun h0 => ⟨g, (k + 1) * 3, by rw [if_neg (by omega)], fun j u hu => (hW.cell (p := ⟨g, (k + 1) * 3 + j, none⟩) hgl).trans (cells_of hat _ u (by rw [← flat_at_drop]; exact hu))⟩) (flatI_one _)
    obtain ⟨r, W', a1, a2, a3, a4, _, a6⟩ := append_src2 elem_wait hv src 27 (by omega) (by omega) hW.size
    rw [show k + (L.length - (k + 1)) = L.length - 1 by omega, ← hfl] at a2 a6
    refine ⟨r, W', a1, hW.grown a3 hW.size (fun j e => (hv.lt j e).1), ⟨fun v1 h => a4 v1 _ _ (Nat.le_refl _) h, a6⟩, a2⟩
  have HF := Lib.hid (And.intro first second)
  have i2 : k ≤ cap := by omega
  have i3 : (0 : Int) ≤ (k : Int) + 1 := by omega
  have i4 : (k : Int) + 1 ≤ (L.length : Int) := by omega
  have hk1 : k + 1 ≤ L.length := hk
  clear hR hs hr h3 hat hgl first second
  go_enter Tryz.func9, Tryz.ntmps9
  go_wp2_with fail
  refine wp_region_tail 18 (by kernel_rfl) (fun W => Below w.heap.size w W) (StaysW w.heap.size k L)
    [[(0, none)], [(0, none)], [(5, some 1)], [(6, some 2)], [(7, some 3)], [(1, none)], [(8, some 4), (9, some 5)], [(10, some 6)], [(0, none)], [(12, some 8)], [(13, some 9)], [(14, some 10)], [(1, none)], [(16, some 12)], [(15, some 11), (17, some 13)], [(11, some 7), (18, some 14)], [(4, some 0)], [(20, some 16)], [(19, some 15), (21, some 17)]]
    [none, none, none, none, some 0, some 1, some 2, some 3, some 4, some 5, some 6, some 7, some 8, some 9, some 10, some 11, some 12, some 13, some 14, some 15, some 16, some 17] (by kernel_rfl) (by kernel_rfl) (by kernel_rfl) ((Below.refl _ _).drew) ?_
  simp only [List.take_succ_cons, List.take_zero, List.drop_succ_cons, List.drop_zero]
  iterate 7
    refine ex_pure (c := ?_) (fun W _ => staysW_refl W) ?_ ?_
    rotate_left
    · intro a' W hR hF
      simp only [FactsOf, List.nil_append, List.cons_append, List.getD_cons_zero, List.getD_cons_succ, exists_eq_left, and_true, List.getElem?_toArray, List.getElem?_cons_zero, List.getElem?_cons_succ] at hF
      have hcW := (hR.cell (p := ⟨h, 0, none⟩) HLT.out).trans C0.out
      refine ⟨?_, ?_⟩
      · simp [Region.wanted, yielded, hF]
      · go_simp
        with_reducible rfl
  refine ex_val (fun v W => W.ownsRow w.heap.size 57 3 v k (flatI (L.take k)) ∧ (k = 0 → v = .slice none 0 0)) (fun v W W' _ hS h => ⟨hS.1 v h.1, h.2⟩) (fun a' W hR hF => ?_) ?_
  · simp only [FactsOf, List.nil_append, List.cons_append, List.getD_cons_zero, List.getD_cons_succ, exists_eq_left, and_true, List.getElem?_toArray, List.getElem?_cons_zero, List.getElem?_cons_succ] at hF
    obtain ⟨r, W', e1, e2, e3, e4⟩ := HF.out.1 W hR
    exact ⟨by simp [Region.wanted, yielded, hF], r, W', exec_append (.const (.slice none 0 0)) (.tmp 10) 27 27 rfl _ _ r rfl (by simp [Act.eval, hF]) e1, e2, e3, e4⟩
  iterate 7
    refine ex_pure (c := ?_) (fun W _ => staysW_refl W) ?_ ?_
    rotate_left
    · intro a' W hR hF
      simp only [FactsOf, List.nil_append, List.cons_append, List.getD_cons_zero, List.getD_cons_succ, exists_eq_left, and_true, List.getElem?_toArray, List.getElem?_cons_zero, List.getElem?_cons_succ] at hF
      have hcW := (hR.cell (p := ⟨h, 0, none⟩) HLT.out).trans C0.out
      refine ⟨?_, ?_⟩
      · simp [Region.wanted, yielded, hF]
      · go_simp
        with_reducible rfl
  refine ex_val (fun v W => W.ownsRow w.heap.size 57 3 v (L.length - 1) (flatI (L.take k ++ L.drop (k + 1)))) (fun v W W' _ hS h => hS.2 v h) (fun a' W hR hF => ?_) ?_
  · simp only [FactsOf, List.nil_append, List.cons_append, List.getD_cons_zero, List.getD_cons_succ, exists_eq_left, and_true, List.getElem?_toArray, List.getElem?_cons_zero, List.getElem?_cons_succ] at hF
    obtain ⟨⟨v, ⟨hv1, hv2⟩, h11⟩, h18⟩ := hF
    obtain ⟨r, W', e1, e2, e3, e4⟩ := HF.out.2 W v hR hv1 hv2
    exact ⟨by simp [Region.wanted, yielded], r, W', exec_append (.tmp 11) (.tmp 18) 27 27 rfl _ _ r (by simp [Act.eval, h11]) (by simp [Act.eval, h18]) e1, e2, e3, e4⟩
  iterate 2
    refine ex_pure (c := ?_) (fun W _ => staysW_refl W) ?_ ?_
    rotate_left
    · intro a' W hR hF
      simp only [FactsOf, List.nil_append, List.cons_append, List.getD_cons_zero, List.getD_cons_succ, exists_eq_left, and_true, List.getElem?_toArray, List.getElem?_cons_zero, List.getElem?_cons_succ] at hF
      refine ⟨?_, ?_⟩
      · simp [Region.wanted, yielded, hF]
      · go_simp
        with_reducible rfl
  show ∀ W, _ → _
  intro W hR
  simp only [FinOf, List.nil_append, List.cons_append, List.getD_cons_zero, List.getD_cons_succ, forall_eq, forall_exists_index, and_imp, Nat.reduceAdd, Array.getD_eq_getD_getElem?, List.getElem?_toArray, List.getElem?_cons_zero, List.getElem?_cons_succ, Option.getD_some]
  intro v11 hv11 hv12 v19 h19
  obtain ⟨A9, c9, rfl⟩ : ∃ A9 c9, v19 = .slice A9 (L.length - 1) c9 := by
    obtain ⟨_, ⟨rfl, h0⟩ | ⟨g9, cap9, cur, e, _⟩⟩ := h19
    · exact ⟨none, 0, by rw [h0]⟩
    · exact ⟨_, _, e⟩
  have sW := HS.out.below' hR
  have k0 : W.cell? ⟨h, 0, none⟩ = some (.slice (some ⟨g, 0, none⟩) L.length cap) := (sW.cell 0).trans rfl
  have f0 := sW.warm 0
  have hlen : (L.take k ++ L.drop (k + 1)).length = L.length - 1 := by simp; omega
  have hrow : (W.setCell ⟨h, 0, none⟩ (.slice A9 (L.length - 1) c9)).ownsRow lo 57 3 (.slice A9 (L.length - 1) c9) (L.take k ++ L.drop (k + 1)).length (flatI (L.take k ++ L.drop (k + 1))) := by
    rw [hlen]
    obtain ⟨e0, hh⟩ := h19
    refine ⟨e0, ?_⟩
    rcases hh with hh | ⟨g9, cap9, cur, e, g1, g2, g3⟩
    · exact .inl hh
    · exact .inr ⟨g9, cap9, cur, e, Nat.le_trans HLO.out.2 g1, Sits.away (p := ⟨h, 0, none⟩) g2 (Sits.apart g2 sW (by decide)) _, g3⟩
  have HFIN : Hid (RefAt (W.setCell ⟨h, 0, none⟩ (.slice A9 (L.length - 1) c9)) h lo last (L.take k ++ L.drop (k + 1)) ∧ Only h w (W.setCell ⟨h, 0, none⟩ (.slice A9 (L.length - 1) c9)) ∧ Below lo w (W.setCell ⟨h, 0, none⟩ (.slice A9 (L.length - 1) c9))) :=
    Lib.hid ⟨⟨⟨_, sW.put 0 _, hrow⟩, HLO.out.1⟩, (Only.of_below h hR).store 0 _, below_put (hR.mono HLO.out.2) HLO.out.1 0 _⟩
  clear hrow h19 hv11 hv12 hR sW hlen
  go_wp2
  all_goals
    go_returns
    exact ⟨rfl, HFIN.out⟩
end Go.Proofs.YtfjpoadmbdjmnaaGreat
