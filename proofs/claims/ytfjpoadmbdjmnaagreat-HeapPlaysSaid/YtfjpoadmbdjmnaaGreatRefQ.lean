/- commonsref1's Heap.Put. -/
import Derived.Test.YtfjpoadmbdjmnaaGreatRefP
import Derived.Test.YtfjpoadmbdjmnaaGreatAppend3
import Derived.Test.YtfjpoadmbdjmnaaGreatTail
namespace Go.Proofs.YtfjpoadmbdjmnaaGreat
open Go Go.RowKit HeapP
set_option maxRecDepth 100000
set_option maxHeartbeats 4000000
set_option linter.unusedSimpArgs false

theorem add_mid' (b o j : Nat) : (⟨b, o, none⟩ : Addr).add j = ⟨b, o + j, none⟩ := by unfold Addr.add; split <;> simp_all
theorem wait_size (W : World) : (sizeOf (Tryz.prog.elem 27)).run Tryz.prog W = .ok 3 W := by
  have h : Tryz.prog.elem 27 = 57 := by kernel_rfl
  have h2 := info_wait
  rw [h]
  cases hq : Tryz.prog.info? 57 with
  | none => simp [hq] at h2
  | some i =>
    simp [hq] at h2
    simp [sizeOf, typeInfo, hq, h2]
/-- A list of the document's own, cut at a place. -/
theorem wait_cut {w : World} {lo : Nat} {A : Option Addr} {cap : Nat} {L : List (HeapP.It Int)} (h : w.ownsRow lo 57 3 (.slice A L.length cap) L.length (flatI L)) (k : Nat) (hk : k ≤ L.length) :
    ∃ A1 c1 A2 c2, (∀ W', (Instr.slice 27 (.slice A L.length cap) none (some (.int .i64 (k : Int))) none).run Tryz.prog W' = .ok (.slice A1 k c1) W') ∧
      (∀ W', (Instr.slice 27 (.slice A L.length cap) (some (.int .i64 (k : Int))) none none).run Tryz.prog W' = .ok (.slice A2 (L.length - k) c2) W') ∧
      (∀ W, Below w.heap.size w W → Src Tryz.prog 3 27 (.slice A1 k c1) k (flatI (L.take k)) W) ∧ ∀ W, Below w.heap.size w W → Src Tryz.prog 3 27 (.slice A2 (L.length - k) c2) (L.length - k) (flatI (L.drop k)) W := by
  obtain ⟨A0, cap0, e, h1, h2, h3⟩ := wait_row h
  simp only [Value.slice.injEq, true_and] at e
  obtain ⟨rfl, rfl⟩ := e
  have he : Tryz.prog.underlying 27 = some (.slice (Tryz.prog.elem 27)) := by kernel_rfl
  refine ⟨if cap = 0 then A else A.map (·.add (0 * 3)), cap - 0, if cap = k then A else A.map (·.add (k * 3)), cap - k, fun W' => ?_, fun W' => ?_, fun W hW => ?_, fun W hW => ?_⟩
  · have := run_slice_h (P := Tryz.prog) W' 27 A L.length cap he .i64 (k : Int) (by omega) (by omega)
    rw [this, wait_size]
    simp [Result.andThen, sliced]
  · have := run_slice_l (P := Tryz.prog) W' 27 A L.length cap he .i64 (k : Int) (by omega) (by omega)
    rw [this, wait_size]
    simp [Result.andThen, sliced]
  · refine src_slice Tryz.underlying27 (by rw [flatI_len]; simp; omega) (fun h0 => ?_) (flatI_one _)
    obtain ⟨g, rfl, hat⟩ := h3 (by omega)
    have hgl : g < w.heap.size := World.block_lt_of_cell? _ _ (hat 0 (by omega) 0 _ rfl)
    refine ⟨g, 0, by rw [if_neg (by omega)]; simp [add_mid'], fun j u hu => (hW.cell (p := ⟨g, 0 + j, none⟩) hgl).trans ?_⟩
    rw [Nat.zero_add]
    exact cells_of hat j u (flat_at_take L k j u hu)
  · refine src_slice Tryz.underlying27 (by rw [flatI_len]; simp) (fun h0 => ?_) (flatI_one _)
    obtain ⟨g, rfl, hat⟩ := h3 (by omega)
    have hgl : g < w.heap.size := World.block_lt_of_cell? _ _ (hat 0 (by omega) 0 _ rfl)
    refine ⟨g, k * 3, by rw [if_neg (by omega)]; simp [add_mid'], fun j u hu => (hW.cell (p := ⟨g, k * 3 + j, none⟩) hgl).trans ?_⟩
    exact cells_of hat _ u (by rw [← flat_at_drop]; exact hu)
/-- What the three appends leave as it was. -/
structure StaysP (B k : Nat) (x : HeapP.It Int) (L : List (HeapP.It Int)) (W W' : World) : Prop where
  one : ∀ v, W.ownsRow B 57 3 v k (flatI (L.take k)) → W'.ownsRow B 57 3 v k (flatI (L.take k))
  two : ∀ v, W.ownsRow B 57 3 v (k + 1) (flatI (L.take k ++ [x])) → W'.ownsRow B 57 3 v (k + 1) (flatI (L.take k ++ [x]))
  three : ∀ v, W.ownsRow B 57 3 v (L.length + 1) (flatI (L.take k ++ [x] ++ L.drop k)) → W'.ownsRow B 57 3 v (L.length + 1) (flatI (L.take k ++ [x] ++ L.drop k))
  lit : ∀ g, Sits W g 57 (encI x).toArray → Sits W' g 57 (encI x).toArray
theorem staysP_refl {B k : Nat} {x : HeapP.It Int} {L : List (HeapP.It Int)} (W : World) : StaysP B k x L W W := ⟨fun _ h => h, fun _ h => h, fun _ h => h, fun _ h => h⟩
theorem staysP_below {B k : Nat} {x : HeapP.It Int} {L : List (HeapP.It Int)} {W W' : World} (h : Below W.heap.size W W') : StaysP B k x L W W' :=
  ⟨fun _ h' => own_stays h' h.block, fun _ h' => own_stays h' h.block, fun _ h' => own_stays h' h.block, fun _ h' => h'.below' h⟩
theorem flat_pre {X Y : List (HeapP.It Int)} {n : Nat} (h : X.length = n) : (flatI (X ++ Y)).take (n * 3) = flatI X := by
  rw [flat_app, List.take_left' (by rw [flatI_len, h])]
section
variable {w W : World} {k : Nat} {x : HeapP.It Int} {L : List (HeapP.It Int)}
theorem put_one {yv : Value} (hk : k ≤ L.length) (hl : L.length ≤ 1000000) (hY : Src Tryz.prog 3 27 yv k (flatI (L.take k)) W) (hW : Below w.heap.size w W) :
    ∃ r W', (Builtin.append_ #[27, 27] 27 #[.slice none 0 0, yv]).run Tryz.prog W = .ok r W' ∧ Below w.heap.size w W' ∧ StaysP w.heap.size k x L W W' ∧ W'.ownsRow w.heap.size 57 3 r k (flatI (L.take k)) ∧ (k = 0 → r = .slice none 0 0) := by
  have hmx : maxLen = 9223372036854775807 := by decide
  by_cases h0 : k = 0
  · subst h0
    have e : flatI (L.take 0) = [] := rfl
    rw [e] at hY ⊢
    exact ⟨.slice none 0 0, W, append_none elem_wait hY 27, hW, staysP_refl W, World.ownsRow_nil _ _ _ _, fun _ => rfl⟩
  · obtain ⟨r, W', a1, a2, a3, -⟩ := append_src3 (base := w.heap.size) elem_wait (World.ownsRow_nil W w.heap.size 57 3) hY 27 (by omega) (by omega) hW.size
    have hb := (Below.refl W.heap.size W).grown a3 (Nat.le_refl _) (by simp [Value.ownBlock])
    rw [Nat.zero_add, List.nil_append] at a2
    exact ⟨r, W', a1, hW.trans (hb.mono hW.size), staysP_below hb, a2, fun h => absurd h h0⟩
theorem put_two {v yv : Value} (hk : k ≤ L.length) (hl : L.length ≤ 1000000) (hX : W.ownsRow w.heap.size 57 3 v k (flatI (L.take k))) (hX0 : k = 0 → v = .slice none 0 0) (hY : Src Tryz.prog 3 27 yv 1 (flatI [x]) W) (hW : Below w.heap.size w W) :
    ∃ r W', (Builtin.append_ #[27, 27] 27 #[v, yv]).run Tryz.prog W = .ok r W' ∧ Below w.heap.size w W' ∧ StaysP w.heap.size k x L W W' ∧ W'.ownsRow w.heap.size 57 3 r (k + 1) (flatI (L.take k ++ [x])) := by
  have hmx : maxLen = 9223372036854775807 := by decide
  have hlk : (L.take k ++ [x]).length = k + 1 := by rw [List.length_append, List.length_take]; simp; omega
  obtain ⟨r, W', a1, a2, a3, a4, a5, a6⟩ := append_src3 elem_wait hX hY 27 (by omega) (by omega) hW.size
  rw [← flat_app] at a2 a6
  refine ⟨r, W', a1, hW.grown a3 hW.size (fun j e => (hX.lt j e).1), ⟨fun v0 h => a4 v0 _ _ (Nat.le_refl _) h, fun v0 h => a6 v0 _ _ (Nat.le_refl _) (by rw [List.take_of_length_le (by rw [flatI_len, hlk]; exact Nat.le_refl _)]) h, fun v0 h => a6 v0 _ _ (by omega) (flat_pre hlk) h, fun g h => a5 g _ (fun c e => ?_) h⟩, a2⟩
  by_cases h0 : k = 0
  · rw [hX0 h0] at e
    cases e
  · show 3 < (k + 1) * 3
    omega
theorem put_three {v yv : Value} (hk : k ≤ L.length) (hl : L.length ≤ 1000000) (hX : W.ownsRow w.heap.size 57 3 v (k + 1) (flatI (L.take k ++ [x]))) (hY : Src Tryz.prog 3 27 yv (L.length - k) (flatI (L.drop k)) W) (hW : Below w.heap.size w W) :
    ∃ r W', (Builtin.append_ #[27, 27] 27 #[v, yv]).run Tryz.prog W = .ok r W' ∧ Below w.heap.size w W' ∧ StaysP w.heap.size k x L W W' ∧ W'.ownsRow w.heap.size 57 3 r (L.length + 1) (flatI (L.take k ++ [x] ++ L.drop k)) := by
  have hmx : maxLen = 9223372036854775807 := by decide
  have hn : k + 1 + (L.length - k) = L.length + 1 := by omega
  by_cases h0 : L.length - k = 0
  · have hd : L.drop k = [] := List.drop_eq_nil_of_le (by omega)
    rw [h0] at hY
    have hform : ∃ A cap, v = .slice A (k + 1) cap ∧ k + 1 ≤ cap := by
      rcases hX.2 with ⟨_, e⟩ | ⟨g, cap, cur, e, _, _, q1, _⟩
      · omega
      · exact ⟨_, cap, e, q1⟩
    obtain ⟨A, cap, rfl, hc⟩ := hform
    refine ⟨_, W, append_zero elem_wait hY 27 A (k + 1) cap hc, hW, staysP_refl W, ?_⟩
    rw [hd, List.append_nil, show L.length + 1 = k + 1 by omega]
    exact hX
  · obtain ⟨r, W', a1, a2, a3, a4, a5, a6⟩ := append_src3 elem_wait hX hY 27 (by omega) (by omega) hW.size
    rw [← flat_app, hn] at a2 a6
    have hl3 : (flatI (L.take k ++ [x] ++ L.drop k)).length = (L.length + 1) * 3 := by
      rw [flatI_len]; simp; omega
    refine ⟨r, W', a1, hW.grown a3 hW.size (fun j e => (hX.lt j e).1), ⟨fun v0 h => a4 v0 _ _ (by omega) h, fun v0 h => a4 v0 _ _ (Nat.le_refl _) h, fun v0 h => a6 v0 _ _ (Nat.le_refl _) (by rw [List.take_of_length_le (Nat.le_of_eq hl3)]) h, fun g h => a5 g _ (fun c e => ?_) h⟩, a2⟩
    show 3 < (k + 1 + (L.length - k)) * 3
    omega
end
theorem one_src {W : World} {b : Nat} {x : HeapP.It Int} (hs : Sits W b 57 (encI x).toArray) : Src Tryz.prog 3 27 (.slice (some ⟨b, 0, none⟩) 1 1) 1 (flatI [x]) W :=
  src_slice Tryz.underlying27 (by rw [flatI_len]; rfl) (fun _ => ⟨b, 0, rfl, fun j u hu => by
    rw [Nat.zero_add, hs.cell, List.getElem?_toArray]
    simpa [flatI] using hu⟩) (flatI_one _)
theorem refput_any (h lo : Nat) (last : Int) (L : List (HeapP.It Int)) (t v : Int) (w : World) (hR : RefAt w h lo last L) (hL : L.length ≤ 1000000) (hlast : 0 ≤ last ∧ last < 400000) (hlo : lo ≤ w.heap.size) :
    Calls Tryz.prog 7 #[.pointer (some ⟨h, 0, none⟩), .int .i64 t, .int .i64 v] w fun e w' => e = .returned (.int .i64 (last + 1)) ∧ RefAt w' h lo (last + 1) (ins ⟨t, last + 1, v⟩ L) ∧ Only h w w' ∧ Below lo w w' := by
  obtain ⟨v0, hs, hr⟩ := hR.rows
  obtain ⟨A, cap, rfl, h1, h2, h3⟩ := wait_row hr
  have hloh := hR.lo_h
  obtain ⟨w1, hw1⟩ : ∃ w1, w1 = w.setCell ⟨h, 1, none⟩ (.int .i64 (last + 1)) := ⟨_, rfl⟩
  have s1 : Sits w1 h 29 #[.slice A L.length cap, .int .i64 (last + 1)] := hw1 ▸ hs.put 1 _
  have hr1 : w1.ownsRow lo 57 3 (.slice A L.length cap) L.length (flatI L) := by
    obtain ⟨e0, hh | ⟨g9, cap9, cur, e, g1, g2, g3⟩⟩ := hr
    · exact ⟨e0, .inl hh⟩
    · exact ⟨e0, .inr ⟨g9, cap9, cur, e, g1, by rw [hw1]; exact Sits.away (p := ⟨h, 1, none⟩) g2 (Sits.apart g2 hs (by decide)) _, g3⟩⟩
  have o1 : Only h w w1 := hw1 ▸ (Only.refl h w).store 1 _
  have b1 : Below lo w w1 := hw1 ▸ below_put (Below.refl lo w) hloh 1 _
  have hlo1 : lo ≤ w1.heap.size := Nat.le_trans hlo b1.size
  obtain ⟨A', cap', ev, -, -, hat⟩ := wait_row hr1
  simp only [Value.slice.injEq, true_and] at ev
  obtain ⟨rfl, rfl⟩ := ev
  have c0 := hs.cell 0
  have c1 := hs.cell 1
  have f1 := hs.warm 1
  simp at c0 c1
  have d0 : w1.cell? ⟨h, 0, none⟩ = some (.slice A L.length cap) := s1.cell 0
  have d1 : w1.cell? ⟨h, 1, none⟩ = some (.int .i64 (last + 1)) := s1.cell 1
  have e1 : IntKind.i64.wrap (last + 1) = last + 1 := IntWalk.i64_in _ (by omega)
  have hlI : (L.length : Int) ≤ 1000000 := by omega
  have HAT := Lib.hid hat
  have HR1 := Lib.hid hr1
  have S1 := Lib.hid s1
  have O1 := Lib.hid (And.intro o1 (And.intro b1 (And.intro hloh hlo1)))
  have HL := Lib.hid hL
  have HW1 := Lib.hid hw1
  clear hR hs hr h3 hat hr1 s1 o1 b1 hloh hlo1 hlo hL hlast h2
  go_enter Tryz.func7, Tryz.ntmps7
  go_wp2_with fail
  rw [← HW1.out]
  clear c0 c1 f1 hw1
  go_loopw [7] (fun i wr => ∃ k : Nat, k ≤ L.length ∧ i = .int .i64 k ∧ wr = w1 ∧ Hid (∀ j, j < k → (gt L j).t ≤ t)) (fun i _ => L.length - (intOf i).toNat)
  case atStart => exact ⟨0, by omega, rfl, rfl, Lib.hid (fun j hj => by omega)⟩
  case round =>
    obtain ⟨k, hk, rfl, hwr, hno⟩ := hrel
    rw [hwr]
    clear hwr wr
    by_cases hlt : k < L.length
    · obtain ⟨g, rfl, hat⟩ := HAT.out (by omega)
      have dt := hat k hlt 0 _ rfl
      rw [Nat.add_zero] at dt
      obtain ⟨y, hy⟩ : ∃ y, y = gt L k := ⟨_, rfl⟩
      rw [← hy] at dt
      have hkI : (k : Int) < (L.length : Int) := by omega
      have HY := Lib.hid hy
      clear hat hy
      by_cases hle : y.t ≤ t
      · have g1 : decide (y.t ≤ t) = true := decide_eq_true hle
        have HLE := Lib.hid hle
        clear hle
        go_wp2
        go_roundw
        case measure => simp [intOf]; omega
        case rel =>
          refine ⟨k + 1, by omega, by go_num, trivial, Lib.hid fun j hj => ?_⟩
          by_cases hjk : j = k
          · subst hjk
            rw [← HY.out]
            exact HLE.out
          · exact hno.out j (by omega)
      · have g1 : decide (y.t ≤ t) = false := decide_eq_false hle
        have hsp : ins ⟨t, last + 1, v⟩ L = L.take k ++ ⟨t, last + 1, v⟩ :: L.drop k := ins_split _ L k hk hno.out (fun _ => by rw [← HY.out]; show t < y.t; omega)
        have HSP := Lib.hid (And.intro hsp hk)
        obtain ⟨A1, q1, A2, q2, hsl1, hsl2, src1, src2⟩ := wait_cut HR1.out k hk
        have SRC := Lib.hid (And.intro src1 src2)
        clear hsp src1 src2
        go_wp2_with fail
        refine wp_region_tail 26 (by kernel_rfl) (fun W => Below w1.heap.size w1 W) (StaysP w1.heap.size k ⟨t, last + 1, v⟩ L)
          [[(0, none)], [(0, none)], [(37, some 1)], [(38, some 2)], [(39, some 3)], [(7, none)], [(40, some 4), (41, some 5)], [(42, some 6)], [(1, none)], [(0, none)], [(45, some 9)], [(46, some 10)], [(47, some 11)], [(2, none)], [(44, some 8), (48, some 12), (49, some 13)], [(50, some 14)], [(43, some 7), (51, some 15)], [(0, none)], [(53, some 17)], [(54, some 18)], [(55, some 19)], [(7, none)], [(56, some 20), (57, some 21)], [(52, some 16), (58, some 22)], [(36, some 0)], [(60, some 24)], [(59, some 23), (61, some 25)]]
          [none, none, none, none, none, none, none, none, none, none, none, none, none, none, none, none, none, none, none, none, none, none, none, none, none, none, none, none, none, none, none, none, none, none, none, none, some 0, some 1, some 2, some 3, some 4, some 5, some 6, some 7, some 8, some 9, some 10, some 11, some 12, some 13, some 14, some 15, some 16, some 17, some 18, some 19, some 20, some 21, some 22, some 23, some 24, some 25, none, none, none, none] (by kernel_rfl) (by kernel_rfl) (by kernel_rfl) ((Below.refl _ _).drew) ?_
        simp only [List.take_succ_cons, List.take_zero, List.drop_succ_cons, List.drop_zero]
        iterate 7
          refine ex_pure (c := ?_) (fun W _ => staysP_refl W) ?_ ?_
          rotate_left
          · intro a' W hR hF
            simp only [FactsOf, List.nil_append, List.cons_append, List.getD_cons_zero, List.getD_cons_succ, exists_eq_left, and_true, List.getElem?_toArray, List.getElem?_cons_zero, List.getElem?_cons_succ] at hF
            have hc0 : W.cell? ⟨h, 0, none⟩ = some (.slice (some ⟨g, 0, none⟩) L.length cap) := ((S1.out.below' hR).cell 0).trans rfl
            have hc1 : W.cell? ⟨h, 1, none⟩ = some (.int .i64 (last + 1)) := ((S1.out.below' hR).cell 1).trans rfl
            refine ⟨?_, ?_⟩
            · simp [Region.wanted, yielded, hF]
            · go_simp
              with_reducible rfl
        refine ex_val (fun u W => W.ownsRow w1.heap.size 57 3 u k (flatI (L.take k)) ∧ (k = 0 → u = .slice none 0 0)) (fun u W W' _ hS h => ⟨hS.one u h.1, h.2⟩) (fun a' W hR hF => ?_) ?_
        · simp only [FactsOf, List.nil_append, List.cons_append, List.getD_cons_zero, List.getD_cons_succ, exists_eq_left, and_true, List.getElem?_toArray, List.getElem?_cons_zero, List.getElem?_cons_succ] at hF
          obtain ⟨r, W', e1, e2, e3, e4⟩ := put_one (w := w1) (x := ⟨t, last + 1, v⟩) HSP.out.2 HL.out (SRC.out.1 W hR) hR
          exact ⟨by simp [Region.wanted, yielded, hF], r, W', exec_append (.const (.slice none 0 0)) (.tmp 42) 27 27 rfl _ _ r rfl (by simp [Act.eval, hF]) e1, e2, e3, e4⟩
        iterate 7
          refine ex_pure (c := ?_) (fun W _ => staysP_refl W) ?_ ?_
          rotate_left
          · intro a' W hR hF
            simp only [FactsOf, List.nil_append, List.cons_append, List.getD_cons_zero, List.getD_cons_succ, exists_eq_left, and_true, List.getElem?_toArray, List.getElem?_cons_zero, List.getElem?_cons_succ] at hF
            have hc0 : W.cell? ⟨h, 0, none⟩ = some (.slice (some ⟨g, 0, none⟩) L.length cap) := ((S1.out.below' hR).cell 0).trans rfl
            have hc1 : W.cell? ⟨h, 1, none⟩ = some (.int .i64 (last + 1)) := ((S1.out.below' hR).cell 1).trans rfl
            refine ⟨?_, ?_⟩
            · simp [Region.wanted, yielded, hF]
            · go_simp
              with_reducible rfl
        refine ex_make (k := 1) (cs := #[.int .i64 t, .int .i64 (last + 1), .int .i64 v]) (T := 57) (fun W W' g _ hS hs => hS.lit g hs) (fun W b hR => ⟨hR.alloc hR.size b, staysP_below ((Below.refl _ _).alloc (Nat.le_refl _) b)⟩) ?_ ?_
        · intro a' W hR hF
          simp only [FactsOf, List.nil_append, List.cons_append, List.getD_cons_zero, List.getD_cons_succ, exists_eq_left, and_true, List.getElem?_toArray, List.getElem?_cons_zero, List.getElem?_cons_succ] at hF
          refine ⟨by simp [Region.wanted, yielded, hF], ?_⟩
          go_simp
        refine ex_val (fun u W => W.ownsRow w1.heap.size 57 3 u (k + 1) (flatI (L.take k ++ [⟨t, last + 1, v⟩]))) (fun u W W' _ hS h => hS.two u h) (fun a' W hR hF => ?_) ?_
        · simp only [FactsOf, List.nil_append, List.cons_append, List.getD_cons_zero, List.getD_cons_succ, exists_eq_left, and_true, List.getElem?_toArray, List.getElem?_cons_zero, List.getElem?_cons_succ] at hF
          obtain ⟨⟨u, ⟨hu1, hu2⟩, h43⟩, z, ⟨g, rfl, hs⟩, h51⟩ := hF
          obtain ⟨r, W', e1, e2, e3, e4⟩ := put_two (w := w1) HSP.out.2 HL.out hu1 hu2 (one_src (x := ⟨t, last + 1, v⟩) hs) hR
          exact ⟨by simp [Region.wanted, yielded, h43, h51], r, W', exec_append (.tmp 43) (.tmp 51) 27 27 rfl _ _ r (by simp [Act.eval, h43]) (by simp [Act.eval, h51]) e1, e2, e3, e4⟩
        iterate 6
          refine ex_pure (c := ?_) (fun W _ => staysP_refl W) ?_ ?_
          rotate_left
          · intro a' W hR hF
            simp only [FactsOf, List.nil_append, List.cons_append, List.getD_cons_zero, List.getD_cons_succ, exists_eq_left, and_true, List.getElem?_toArray, List.getElem?_cons_zero, List.getElem?_cons_succ] at hF
            have hc0 : W.cell? ⟨h, 0, none⟩ = some (.slice (some ⟨g, 0, none⟩) L.length cap) := ((S1.out.below' hR).cell 0).trans rfl
            have hc1 : W.cell? ⟨h, 1, none⟩ = some (.int .i64 (last + 1)) := ((S1.out.below' hR).cell 1).trans rfl
            refine ⟨?_, ?_⟩
            · simp [Region.wanted, yielded, hF]
            · go_simp
              with_reducible rfl
        refine ex_val (fun u W => W.ownsRow w1.heap.size 57 3 u (L.length + 1) (flatI (L.take k ++ [⟨t, last + 1, v⟩] ++ L.drop k))) (fun u W W' _ hS h => hS.three u h) (fun a' W hR hF => ?_) ?_
        · simp only [FactsOf, List.nil_append, List.cons_append, List.getD_cons_zero, List.getD_cons_succ, exists_eq_left, and_true, List.getElem?_toArray, List.getElem?_cons_zero, List.getElem?_cons_succ] at hF
          obtain ⟨⟨u, hu1, h52⟩, h58⟩ := hF
          obtain ⟨r, W', e1, e2, e3, e4⟩ := put_three (w := w1) HSP.out.2 HL.out hu1 (SRC.out.2 W hR) hR
          exact ⟨by simp [Region.wanted, yielded, h52, h58], r, W', exec_append (.tmp 52) (.tmp 58) 27 27 rfl _ _ r (by simp [Act.eval, h52]) (by simp [Act.eval, h58]) e1, e2, e3, e4⟩
        iterate 2
          refine ex_pure (c := ?_) (fun W _ => staysP_refl W) ?_ ?_
          rotate_left
          · intro a' W hR hF
            simp only [FactsOf, List.nil_append, List.cons_append, List.getD_cons_zero, List.getD_cons_succ, exists_eq_left, and_true, List.getElem?_toArray, List.getElem?_cons_zero, List.getElem?_cons_succ] at hF
            have hc0 : W.cell? ⟨h, 0, none⟩ = some (.slice (some ⟨g, 0, none⟩) L.length cap) := ((S1.out.below' hR).cell 0).trans rfl
            have hc1 : W.cell? ⟨h, 1, none⟩ = some (.int .i64 (last + 1)) := ((S1.out.below' hR).cell 1).trans rfl
            refine ⟨?_, ?_⟩
            · simp [Region.wanted, yielded, hF]
            · go_simp
              with_reducible rfl
        show ∀ W, _ → _
        intro W hR
        simp only [FinOf, List.nil_append, List.cons_append, List.getD_cons_zero, List.getD_cons_succ, forall_eq, forall_exists_index, and_imp, Nat.reduceAdd, Array.getD_eq_getD_getElem?, List.getElem?_toArray, List.getElem?_cons_zero, List.getElem?_cons_succ, Option.getD_some]
        intro v43 _ _ v51 g51 _ _ v52 _ v59 h59
        obtain ⟨A9, c9, rfl⟩ : ∃ A9 c9, v59 = .slice A9 (L.length + 1) c9 := by
          obtain ⟨_, ⟨rfl, h0⟩ | ⟨g9, cap9, cur, e, _⟩⟩ := h59
          · omega
          · exact ⟨_, _, e⟩
        have sW := S1.out.below' hR
        have k0 : W.cell? ⟨h, 0, none⟩ = some (.slice (some ⟨g, 0, none⟩) L.length cap) := (sW.cell 0).trans rfl
        have f0 := sW.warm 0
        have hO := O1.out
        have hcat : L.take k ++ [⟨t, last + 1, v⟩] ++ L.drop k = ins ⟨t, last + 1, v⟩ L := by rw [HSP.out.1, List.append_assoc]; rfl
        have hrow : (W.setCell ⟨h, 0, none⟩ (.slice A9 (L.length + 1) c9)).ownsRow lo 57 3 (.slice A9 (L.length + 1) c9) (ins (⟨t, last + 1, v⟩ : HeapP.It Int) L).length (flatI (ins ⟨t, last + 1, v⟩ L)) := by
          rw [hcat] at h59
          rw [ins_length]
          obtain ⟨e0, hh | ⟨g9, cap9, cur, e, g1, g2, g3⟩⟩ := h59
          · exact ⟨e0, .inl hh⟩
          · exact ⟨e0, .inr ⟨g9, cap9, cur, e, Nat.le_trans hO.2.2.2 g1, Sits.away (p := ⟨h, 0, none⟩) g2 (Sits.apart g2 sW (by decide)) _, g3⟩⟩
        have hfin : RefAt (W.setCell ⟨h, 0, none⟩ (.slice A9 (L.length + 1) c9)) h lo (last + 1) (ins ⟨t, last + 1, v⟩ L) ∧ Only h w (W.setCell ⟨h, 0, none⟩ (.slice A9 (L.length + 1) c9)) ∧ Below lo w (W.setCell ⟨h, 0, none⟩ (.slice A9 (L.length + 1) c9)) :=
          ⟨⟨⟨_, sW.put 0 _, hrow⟩, hO.2.2.1⟩, (hO.1.then hR).store 0 _, below_put (hO.2.1.trans (hR.mono hO.2.2.2)) hO.2.2.1 0 _⟩
        have z1 : (W.setCell ⟨h, 0, none⟩ (.slice A9 (L.length + 1) c9)).cell? ⟨h, 1, none⟩ = some (.int .i64 (last + 1)) := ((sW.put 0 _).cell 1).trans rfl
        have FA := Lib.hid hfin
        clear h59 hrow hfin hcat hO sW hR
        go_wp2
        go_ret
        exact ⟨rfl, FA.out⟩
    · have g1 : decide (k < L.length) = false := decide_eq_false hlt
      have hsp : ins ⟨t, last + 1, v⟩ L = L.take k ++ ⟨t, last + 1, v⟩ :: L.drop k := ins_split _ L k hk hno.out (fun h => absurd h hlt)
      clear hlt
      have HSP := Lib.hid (And.intro hsp hk)
      obtain ⟨A1, q1, A2, q2, hsl1, hsl2, src1, src2⟩ := wait_cut HR1.out k hk
      have SRC := Lib.hid (And.intro src1 src2)
      clear hsp src1 src2
      go_wp2_with fail
      refine wp_region_tail 26 (by kernel_rfl) (fun W => Below w1.heap.size w1 W) (StaysP w1.heap.size k ⟨t, last + 1, v⟩ L)
        [[(0, none)], [(0, none)], [(37, some 1)], [(38, some 2)], [(39, some 3)], [(7, none)], [(40, some 4), (41, some 5)], [(42, some 6)], [(1, none)], [(0, none)], [(45, some 9)], [(46, some 10)], [(47, some 11)], [(2, none)], [(44, some 8), (48, some 12), (49, some 13)], [(50, some 14)], [(43, some 7), (51, some 15)], [(0, none)], [(53, some 17)], [(54, some 18)], [(55, some 19)], [(7, none)], [(56, some 20), (57, some 21)], [(52, some 16), (58, some 22)], [(36, some 0)], [(60, some 24)], [(59, some 23), (61, some 25)]]
        [none, none, none, none, none, none, none, none, none, none, none, none, none, none, none, none, none, none, none, none, none, none, none, none, none, none, none, none, none, none, none, none, none, none, none, none, some 0, some 1, some 2, some 3, some 4, some 5, some 6, some 7, some 8, some 9, some 10, some 11, some 12, some 13, some 14, some 15, some 16, some 17, some 18, some 19, some 20, some 21, some 22, some 23, some 24, some 25, none, none, none, none] (by kernel_rfl) (by kernel_rfl) (by kernel_rfl) ((Below.refl _ _).drew) ?_
      simp only [List.take_succ_cons, List.take_zero, List.drop_succ_cons, List.drop_zero]
      iterate 7
        refine ex_pure (c := ?_) (fun W _ => staysP_refl W) ?_ ?_
        rotate_left
        · intro a' W hR hF
          simp only [FactsOf, List.nil_append, List.cons_append, List.getD_cons_zero, List.getD_cons_succ, exists_eq_left, and_true, List.getElem?_toArray, List.getElem?_cons_zero, List.getElem?_cons_succ] at hF
          have hc0 : W.cell? ⟨h, 0, none⟩ = some (.slice A L.length cap) := ((S1.out.below' hR).cell 0).trans rfl
          have hc1 : W.cell? ⟨h, 1, none⟩ = some (.int .i64 (last + 1)) := ((S1.out.below' hR).cell 1).trans rfl
          refine ⟨?_, ?_⟩
          · simp [Region.wanted, yielded, hF]
          · go_simp
            with_reducible rfl
      refine ex_val (fun u W => W.ownsRow w1.heap.size 57 3 u k (flatI (L.take k)) ∧ (k = 0 → u = .slice none 0 0)) (fun u W W' _ hS h => ⟨hS.one u h.1, h.2⟩) (fun a' W hR hF => ?_) ?_
      · simp only [FactsOf, List.nil_append, List.cons_append, List.getD_cons_zero, List.getD_cons_succ, exists_eq_left, and_true, List.getElem?_toArray, List.getElem?_cons_zero, List.getElem?_cons_succ] at hF
        obtain ⟨r, W', e1, e2, e3, e4⟩ := put_one (w := w1) (x := ⟨t, last + 1, v⟩) HSP.out.2 HL.out (SRC.out.1 W hR) hR
        exact ⟨by simp [Region.wanted, yielded, hF], r, W', exec_append (.const (.slice none 0 0)) (.tmp 42) 27 27 rfl _ _ r rfl (by simp [Act.eval, hF]) e1, e2, e3, e4⟩
      iterate 7
        refine ex_pure (c := ?_) (fun W _ => staysP_refl W) ?_ ?_
        rotate_left
        · intro a' W hR hF
          simp only [FactsOf, List.nil_append, List.cons_append, List.getD_cons_zero, List.getD_cons_succ, exists_eq_left, and_true, List.getElem?_toArray, List.getElem?_cons_zero, List.getElem?_cons_succ] at hF
          have hc0 : W.cell? ⟨h, 0, none⟩ = some (.slice A L.length cap) := ((S1.out.below' hR).cell 0).trans rfl
          have hc1 : W.cell? ⟨h, 1, none⟩ = some (.int .i64 (last + 1)) := ((S1.out.below' hR).cell 1).trans rfl
          refine ⟨?_, ?_⟩
          · simp [Region.wanted, yielded, hF]
          · go_simp
            with_reducible rfl
      refine ex_make (k := 1) (cs := #[.int .i64 t, .int .i64 (last + 1), .int .i64 v]) (T := 57) (fun W W' g _ hS hs => hS.lit g hs) (fun W b hR => ⟨hR.alloc hR.size b, staysP_below ((Below.refl _ _).alloc (Nat.le_refl _) b)⟩) ?_ ?_
      · intro a' W hR hF
        simp only [FactsOf, List.nil_append, List.cons_append, List.getD_cons_zero, List.getD_cons_succ, exists_eq_left, and_true, List.getElem?_toArray, List.getElem?_cons_zero, List.getElem?_cons_succ] at hF
        refine ⟨by simp [Region.wanted, yielded, hF], ?_⟩
        go_simp
      refine ex_val (fun u W => W.ownsRow w1.heap.size 57 3 u (k + 1) (flatI (L.take k ++ [⟨t, last + 1, v⟩]))) (fun u W W' _ hS h => hS.two u h) (fun a' W hR hF => ?_) ?_
      · simp only [FactsOf, List.nil_append, List.cons_append, List.getD_cons_zero, List.getD_cons_succ, exists_eq_left, and_true, List.getElem?_toArray, List.getElem?_cons_zero, List.getElem?_cons_succ] at hF
        obtain ⟨⟨u, ⟨hu1, hu2⟩, h43⟩, z, ⟨g, rfl, hs⟩, h51⟩ := hF
        obtain ⟨r, W', e1, e2, e3, e4⟩ := put_two (w := w1) HSP.out.2 HL.out hu1 hu2 (one_src (x := ⟨t, last + 1, v⟩) hs) hR
        exact ⟨by simp [Region.wanted, yielded, h43, h51], r, W', exec_append (.tmp 43) (.tmp 51) 27 27 rfl _ _ r (by simp [Act.eval, h43]) (by simp [Act.eval, h51]) e1, e2, e3, e4⟩
      iterate 6
        refine ex_pure (c := ?_) (fun W _ => staysP_refl W) ?_ ?_
        rotate_left
        · intro a' W hR hF
          simp only [FactsOf, List.nil_append, List.cons_append, List.getD_cons_zero, List.getD_cons_succ, exists_eq_left, and_true, List.getElem?_toArray, List.getElem?_cons_zero, List.getElem?_cons_succ] at hF
          have hc0 : W.cell? ⟨h, 0, none⟩ = some (.slice A L.length cap) := ((S1.out.below' hR).cell 0).trans rfl
          have hc1 : W.cell? ⟨h, 1, none⟩ = some (.int .i64 (last + 1)) := ((S1.out.below' hR).cell 1).trans rfl
          refine ⟨?_, ?_⟩
          · simp [Region.wanted, yielded, hF]
          · go_simp
            with_reducible rfl
      refine ex_val (fun u W => W.ownsRow w1.heap.size 57 3 u (L.length + 1) (flatI (L.take k ++ [⟨t, last + 1, v⟩] ++ L.drop k))) (fun u W W' _ hS h => hS.three u h) (fun a' W hR hF => ?_) ?_
      · simp only [FactsOf, List.nil_append, List.cons_append, List.getD_cons_zero, List.getD_cons_succ, exists_eq_left, and_true, List.getElem?_toArray, List.getElem?_cons_zero, List.getElem?_cons_succ] at hF
        obtain ⟨⟨u, hu1, h52⟩, h58⟩ := hF
        obtain ⟨r, W', e1, e2, e3, e4⟩ := put_three (w := w1) HSP.out.2 HL.out hu1 (SRC.out.2 W hR) hR
        exact ⟨by simp [Region.wanted, yielded, h52, h58], r, W', exec_append (.tmp 52) (.tmp 58) 27 27 rfl _ _ r (by simp [Act.eval, h52]) (by simp [Act.eval, h58]) e1, e2, e3, e4⟩
      iterate 2
        refine ex_pure (c := ?_) (fun W _ => staysP_refl W) ?_ ?_
        rotate_left
        · intro a' W hR hF
          simp only [FactsOf, List.nil_append, List.cons_append, List.getD_cons_zero, List.getD_cons_succ, exists_eq_left, and_true, List.getElem?_toArray, List.getElem?_cons_zero, List.getElem?_cons_succ] at hF
          have hc0 : W.cell? ⟨h, 0, none⟩ = some (.slice A L.length cap) := ((S1.out.below' hR).cell 0).trans rfl
          have hc1 : W.cell? ⟨h, 1, none⟩ = some (.int .i64 (last + 1)) := ((S1.out.below' hR).cell 1).trans rfl
          refine ⟨?_, ?_⟩
          · simp [Region.wanted, yielded, hF]
          · go_simp
            with_reducible rfl
      show ∀ W, _ → _
      intro W hR
      simp only [FinOf, List.nil_append, List.cons_append, List.getD_cons_zero, List.getD_cons_succ, forall_eq, forall_exists_index, and_imp, Nat.reduceAdd, Array.getD_eq_getD_getElem?, List.getElem?_toArray, List.getElem?_cons_zero, List.getElem?_cons_succ, Option.getD_some]
      intro v43 _ _ v51 g51 _ _ v52 _ v59 h59
      obtain ⟨A9, c9, rfl⟩ : ∃ A9 c9, v59 = .slice A9 (L.length + 1) c9 := by
        obtain ⟨_, ⟨rfl, h0⟩ | ⟨g9, cap9, cur, e, _⟩⟩ := h59
        · omega
        · exact ⟨_, _, e⟩
      have sW := S1.out.below' hR
      have k0 : W.cell? ⟨h, 0, none⟩ = some (.slice A L.length cap) := (sW.cell 0).trans rfl
      have f0 := sW.warm 0
      have hO := O1.out
      have hcat : L.take k ++ [⟨t, last + 1, v⟩] ++ L.drop k = ins ⟨t, last + 1, v⟩ L := by rw [HSP.out.1, List.append_assoc]; rfl
      have hrow : (W.setCell ⟨h, 0, none⟩ (.slice A9 (L.length + 1) c9)).ownsRow lo 57 3 (.slice A9 (L.length + 1) c9) (ins (⟨t, last + 1, v⟩ : HeapP.It Int) L).length (flatI (ins ⟨t, last + 1, v⟩ L)) := by
        rw [hcat] at h59
        rw [ins_length]
        obtain ⟨e0, hh | ⟨g9, cap9, cur, e, g1, g2, g3⟩⟩ := h59
        · exact ⟨e0, .inl hh⟩
        · exact ⟨e0, .inr ⟨g9, cap9, cur, e, Nat.le_trans hO.2.2.2 g1, Sits.away (p := ⟨h, 0, none⟩) g2 (Sits.apart g2 sW (by decide)) _, g3⟩⟩
      have hfin : RefAt (W.setCell ⟨h, 0, none⟩ (.slice A9 (L.length + 1) c9)) h lo (last + 1) (ins ⟨t, last + 1, v⟩ L) ∧ Only h w (W.setCell ⟨h, 0, none⟩ (.slice A9 (L.length + 1) c9)) ∧ Below lo w (W.setCell ⟨h, 0, none⟩ (.slice A9 (L.length + 1) c9)) :=
        ⟨⟨⟨_, sW.put 0 _, hrow⟩, hO.2.2.1⟩, (hO.1.then hR).store 0 _, below_put (hO.2.1.trans (hR.mono hO.2.2.2)) hO.2.2.1 0 _⟩
      have z1 : (W.setCell ⟨h, 0, none⟩ (.slice A9 (L.length + 1) c9)).cell? ⟨h, 1, none⟩ = some (.int .i64 (last + 1)) := ((sW.put 0 _).cell 1).trans rfl
      have FA := Lib.hid hfin
      clear h59 hrow hfin hcat hO sW hR
      go_wp2
      go_ret
      exact ⟨rfl, FA.out⟩
end Go.Proofs.YtfjpoadmbdjmnaaGreat
