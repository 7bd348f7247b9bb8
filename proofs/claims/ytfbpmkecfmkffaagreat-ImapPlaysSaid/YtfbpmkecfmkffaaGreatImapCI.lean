/- Package imap at int: what a span cuts out of parts (cut), neighbours that are alike are made one (joined), lists behind one another (slices.Concat). -/
import Derived.Test.YtfbpmkecfmkffaaGreatImapBI
import Derived.Test.YtfbpmkecfmkffaaGreatSpanB
import Derived.Test.YtfbpmkecfmkffaaGreatGB
import Derived.Lib.AppendZeros
namespace Go.Proofs.YtfbpmkecfmkffaaGreat
open Go Go.RowKit SpanP PartP ImapP
set_option maxRecDepth 100000
set_option maxHeartbeats 1000000
set_option linter.unusedSimpArgs false

theorem RowAt.less {w : World} {base base' : Nat} {e : TypeId} {size : Nat} {v : Value} {n : Nat} {xs : List Value} (h : RowAt w base e size v n xs) (hb : base' ≤ base) : RowAt w base' e size v n xs := by
  refine ⟨h.1, ?_⟩
  rcases h.2 with hn | ⟨g, o, cap, cur, rfl, hg, rest⟩
  · exact .inl hn
  · exact .inr ⟨g, o, cap, cur, rfl, Nat.le_trans hb hg, rest⟩
theorem cntKI_spec (key : PtV Int → Int) (c : Int) : ∀ {l : List (PtV Int)}, (l.Pairwise fun x y => key x ≤ key y) → (∀ x ∈ l.take (cntKI key c l), key x < c) ∧ ∀ x ∈ l.drop (cntKI key c l), c ≤ key x
  | [], _ => by simp
  | x :: l, h => by
    have ih := cntKI_spec key c (List.pairwise_cons.1 h).2
    by_cases e : key x < c
    · have e2 : cntKI key c (x :: l) = cntKI key c l + 1 := by unfold cntKI; rw [List.countP_cons_of_pos (by simpa using e)]
      rw [e2, List.take_succ_cons, List.drop_succ_cons]
      refine ⟨fun y hy => ?_, ih.2⟩
      rcases List.mem_cons.1 hy with rfl | hy
      · exact e
      · exact ih.1 y hy
    · have e2 : cntKI key c (x :: l) = 0 := by
        unfold cntKI
        rw [List.countP_eq_zero]
        intro y hy
        rcases List.mem_cons.1 hy with rfl | hy
        · simpa using e
        · have := (List.pairwise_cons.1 h).1 y hy
          simp only [decide_eq_true_eq]
          omega
      rw [e2]
      refine ⟨by simp, fun y hy => ?_⟩
      rcases List.mem_cons.1 hy with rfl | hy
      · omega
      · have := (List.pairwise_cons.1 h).1 y hy
        omega
theorem nearI_ok {l : List (PtV Int)} (hn : PNorm l) {s : S} (hs : s.1 ≤ s.2) : Near s l (nearII s l) (nearJI s l) := by
  have hok := hn.ok
  have u1 : l.Pairwise fun x y => x.1.2 ≤ y.1.2 := (List.Pairwise.and_mem.1 hn.up).imp fun {x y} ⟨hx, hy, k⟩ => by
    have := hok y hy; unfold Ok at this; omega
  have u2 : l.Pairwise fun x y => x.1.1 < y.1.1 := (List.Pairwise.and_mem.1 hn.up).imp fun {x y} ⟨hx, hy, k⟩ => by
    have := hok x hx; unfold Ok at this; omega
  obtain ⟨a1, a2⟩ := cntKI_spec (fun x => x.1.2) s.1 u1
  obtain ⟨b1, b2⟩ := cntKI_spec (fun x => x.1.1) s.2 (u2.imp fun h => Int.le_of_lt h)
  have hij : nearII s l ≤ cntKI (fun x => x.1.1) s.2 l := List.countP_mono_left fun x hx h => by
    have := hok x hx
    unfold Ok at this
    simp only [decide_eq_true_eq] at h ⊢
    omega
  have hjl : cntKI (fun x => x.1.1) s.2 l ≤ l.length := List.countP_le_length
  have u3 := u2.drop (i := cntKI (fun x => x.1.1) s.2 l)
  unfold nearJI hitKI
  generalize cntKI (fun x => x.1.1) s.2 l = j at *
  rcases Nat.lt_or_ge j l.length with hj | hj
  · rw [List.getElem?_eq_getElem hj]
    simp only
    rw [List.drop_eq_getElem_cons hj] at u3 b2
    have h3 := (List.pairwise_cons.1 u3).1
    have h4 := b2 l[j] List.mem_cons_self
    by_cases e : l[j].1.1 = s.2
    · rw [if_pos (by simpa using e)]
      refine ⟨by omega, by omega, a1, a2, fun x hx => ?_, fun x hx => ?_⟩
      · rw [List.take_succ_eq_append_getElem hj] at hx
        rcases List.mem_append.1 hx with hx | hx
        · exact Int.le_of_lt (b1 x hx)
        · rw [List.mem_singleton.1 hx]; omega
      · have := h3 x hx
        omega
    · rw [if_neg (by simpa using e), Nat.add_zero]
      refine ⟨hij, hjl, a1, a2, fun x hx => Int.le_of_lt (b1 x hx), fun x hx => ?_⟩
      rw [List.drop_eq_getElem_cons hj] at hx
      rcases List.mem_cons.1 hx with rfl | hx
      · omega
      · have := h3 x hx
        omega
  · rw [List.getElem?_eq_none hj]
    simp only [Bool.false_eq_true, if_false, Nat.add_zero]
    exact ⟨hij, hjl, a1, a2, fun x hx => Int.le_of_lt (b1 x hx), fun x hx => by rw [List.drop_eq_nil_of_le hj] at hx; cases hx⟩

/-- cut: what parts have in common with a span. -/
theorem cutI_any (v : Value) (l : List (PtV Int)) (t : S) (w : World) (h : PtsI w v l) (hl : l.length ≤ 1000000) :
    Calls Tryz.prog 32 #[v, aggS t] w fun e w' => ∃ x, e = .returned x ∧ MRowI w' w.heap.size x (cutV t l) ∧ Below w.heap.size w w' := by
  obtain ⟨A, cap, rfl, h1, h2, h3⟩ := h.read
  obtain ⟨a, b⟩ := t
  unfold aggS
  simp only
  obtain ⟨p1, hp1⟩ : ∃ p, p = w.heap.size := ⟨_, rfl⟩
  obtain ⟨w1, hw1⟩ : ∃ w1, w1 = w.alloc (.cells #[.int .i64 a, .int .i64 b] 50) := ⟨_, rfl⟩
  have hb0 : Below w.heap.size w w1 := hw1 ▸ (Below.refl _ w).alloc (Nat.le_refl _) _
  have sp : Sits w1 p1 50 #[.int .i64 a, .int .i64 b] := hw1 ▸ hp1 ▸ Sits.fresh w _ _
  have H3 : Hid (∀ i (hi : i < l.length), ∃ b o, A = some ⟨b, o, none⟩ ∧ b < w1.heap.size ∧ w1.cell? ⟨b, o + i * 3, none⟩ = some (.int .i64 l[i].1.1) ∧ w1.cell? ⟨b, o + i * 3 + 1, none⟩ = some (.int .i64 l[i].1.2) ∧ w1.cell? ⟨b, o + i * 3 + 2, none⟩ = some (Value.int .i64 l[i].2)) :=
    Lib.hid fun i hi => by
      obtain ⟨b, o, e, k0, k1, k2, k3⟩ := h3 i hi
      exact ⟨b, o, e, Nat.lt_of_lt_of_le k0 hb0.size, (hb0.cell k0).trans k1, (hb0.cell k0).trans k2, (hb0.cell k0).trans k3⟩
  have HL := Lib.hid hl
  have HC1 := Lib.hid h1
  have HB0 := Lib.hid hb0
  have HSP := Lib.hid sp
  have hlen : (l.length : Int) ≤ 9223372036854775807 := by omega
  clear h h1 h2 h3 sp hb0 hl
  go_enter Tryz.func32, Tryz.ntmps32
  go_wp2_with fail
  rw [← hw1, ← hp1]
  clear hw1 hp1
  go_loopw [5, 12] (fun s i wr => ∃ k : Nat, k ≤ l.length ∧ i = .int .i64 k ∧ Hid (MRowI wr w1.heap.size s (cutV (a, b) (l.take k)) ∧ Below w1.heap.size w1 wr)) (fun _ i _ => l.length - (intOf i).toNat)
  case atStart => exact ⟨0, by omega, rfl, Lib.hid ⟨by rw [List.take_zero]; exact MRowI.nil _ _, Below.refl _ _⟩⟩
  case round =>
    obtain ⟨k, hk, rfl, hI⟩ := hrel
    by_cases hlt : k < l.length
    · obtain ⟨b1, o, rfl, hbs, c0, c1, c2⟩ := H3.out k hlt
      generalize hy : l[k] = y at c0 c1 c2
      obtain ⟨⟨y0, y1⟩, yv⟩ := y
      simp only at c0 c1 c2
      have hB := hI.out.2
      have d0 := (hB.cell (p := ⟨b1, o + k * 3, none⟩) hbs).trans c0
      have d1 := (hB.cell (p := ⟨b1, o + k * 3 + 1, none⟩) hbs).trans c1
      have d2 := (hB.cell (p := ⟨b1, o + k * 3 + 2, none⟩) hbs).trans c2
      obtain ⟨w2, hw2⟩ : ∃ w2, w2 = wr.alloc (.cells #[.int .i64 y0, .int .i64 y1, (Value.int .i64 yv)] 73) := ⟨_, rfl⟩
      have hb2 : Below wr.heap.size wr w2 := hw2 ▸ (Below.refl _ wr).alloc (Nat.le_refl _) _
      have sq : Sits w2 wr.heap.size 73 #[.int .i64 y0, .int .i64 y1, (Value.int .i64 yv)] := hw2 ▸ Sits.fresh wr _ _
      have hsp := (HSP.out.below' hB).below' hb2
      have e0 := hsp.cell 0
      have e1 := hsp.cell 1
      simp at e0 e1
      rw [hw2] at e0 e1
      have SQ := Lib.hid sq
      have HB2 : Hid (Below wr.heap.size wr w2) := Lib.hid hb2
      have htake : l.take (k + 1) = l.take k ++ [((y0, y1), yv)] := by rw [List.take_succ_eq_append_getElem hlt, hy]
      have hkl : (cutV (a, b) (l.take k)).length ≤ 1000000 := Nat.le_trans (cutV_len _ _) (by rw [List.length_take]; have := HL.out; omega)
      rcases hmm : meet (y0, y1) (a, b) with _ | m
      · have hmt : ∀ W : World, Calls Tryz.prog 102 #[.agg #[.int .i64 y0, .int .i64 y1], .agg #[.int .i64 a, .int .i64 b]] W fun e w' => e = .returned (.tuple #[.agg #[.int .i64 0, .int .i64 0], .bool false]) ∧ Below W.heap.size W w' := fun W => by
          have := meet_any (y0, y1) (a, b) W
          rw [hmm] at this
          exact this
        have HT : Hid (cutV (a, b) (l.take (k + 1)) = cutV (a, b) (l.take k)) := Lib.hid (by rw [htake, cutV_append]; simp [cutV, hmm])
        clear c0 c1 c2 hbs hB hb2 sq hsp hy htake hkl hmm
        go_wp2_with fail
        rw [← hw2]
        refine (hmt _).mono ?_
        rintro e w3 ⟨rfl, hB3⟩
        have HB3 := Lib.hid hB3
        clear hB3 e0 e1 d0 d1 d2 hw2 hmt
        go_wp2
        go_roundw
        case measure => simp [intOf]; omega
        case rel =>
          have hB4 : Below wr.heap.size wr w3 := HB2.out.trans (HB3.out.mono HB2.out.size)
          have hB5 := hB4.alloc hB4.size (.cells #[.int .i64 0, .int .i64 0] 50)
          exact ⟨k + 1, by omega, by go_num, Lib.hid ⟨by rw [HT.out]; exact hI.out.1.below hB5, hI.out.2.trans (hB5.mono hI.out.2.size)⟩⟩
      · obtain ⟨m0, m1⟩ := m
        have hmt : ∀ W : World, Calls Tryz.prog 102 #[.agg #[.int .i64 y0, .int .i64 y1], .agg #[.int .i64 a, .int .i64 b]] W fun e w' => e = .returned (.tuple #[.agg #[.int .i64 m0, .int .i64 m1], .bool true]) ∧ Below W.heap.size W w' := fun W => by
          have := meet_any (y0, y1) (a, b) W
          rw [hmm] at this
          exact this
        have HT : Hid (cutV (a, b) (l.take (k + 1)) = cutV (a, b) (l.take k) ++ [((m0, m1), yv)]) := Lib.hid (by rw [htake, cutV_append]; simp [cutV, hmm])
        have HKL := Lib.hid hkl
        clear c0 c1 c2 hbs hB hb2 sq hsp hy htake hkl hmm
        go_wp2_with fail
        rw [← hw2]
        refine (hmt _).mono ?_
        rintro e w3 ⟨rfl, hB3⟩
        obtain ⟨w4, hw4⟩ : ∃ w4, w4 = w3.alloc (.cells #[.int .i64 m0, .int .i64 m1] 50) := ⟨_, rfl⟩
        have hB4 : Below wr.heap.size wr w3 := HB2.out.trans (hB3.mono HB2.out.size)
        have hB5 : Below wr.heap.size wr w4 := hw4 ▸ hB4.alloc hB4.size _
        have z2 := (SQ.out.below' (hw4 ▸ hB3.alloc hB3.size _ : Below w2.heap.size w2 w4)).cell 2
        simp at z2
        obtain ⟨A8, c8, w8, hr8, hX8, hB8, _, h81, h82⟩ := pushMI_one (hI.out.1.below hB5) ((m0, m1), yv) (hI.out.2.trans (hB5.mono hI.out.2.size)).size HKL.out 28
        have HX8 : Hid (MRowI w8 w1.heap.size (.slice A8 ((cutV (a, b) (l.take k)).length + 1 : Nat) c8) (cutV (a, b) (l.take (k + 1))) ∧ Below w1.heap.size w1 w8) := Lib.hid ⟨by rw [HT.out]; exact hX8, (hI.out.2.trans (hB5.mono hI.out.2.size)).trans hB8⟩
        simp only at hr8
        rw [hw4] at z2 hr8
        rw [World.size_alloc] at hr8
        clear hB3 e0 e1 d0 d1 d2 hw2 hmt hX8 hB8 hB4 hB5 hw4 h81 h82 HT
        go_wp2_with (at_builtin; refine Lib.wpList_append_run _ rfl _ _ _ _ rfl _ _ rfl rfl _ _ hr8 ?_)
        go_roundw
        case measure => simp [intOf]; omega
        case rel => exact ⟨k + 1, by omega, by go_num, HX8⟩
    · obtain rfl : k = l.length := by omega
      clear hk hlt
      go_wp2
      go_ret
      have h1 := hI.out.1
      rw [List.take_length] at h1
      exact ⟨_, rfl, h1.less HB0.out.size, HB0.out.trans (hI.out.2.mono HB0.out.size)⟩
theorem RowAt.warmAt {w : World} {base : Nat} {e : TypeId} {size : Nat} {A : Option Addr} {n cap : Nat} {xs : List Value} {g o : Nat} (h : RowAt w base e size (.slice A n cap) n xs) (hA : A = some ⟨g, o, none⟩) (j : Nat) : w.frozen? ⟨g, j, none⟩ = false := by
  obtain ⟨A', c', e1, _, _, _, h5⟩ := h.form
  injection e1 with e1 _ _
  subst e1
  exact (h5 g o hA).2.2.2 j
theorem last_facts (n : Nat) (h : n + 1 ≤ 1000000) : IntKind.i64.wrap (((n + 1 : Nat) : Int) - 1) = (n : Int) ∧ IntKind.i64.wrap (((n : Int) + 1) - 1) = (n : Int) ∧ decide ((n : Int) ≥ 0) = true ∧ decide ((0 : Int) ≤ (n : Int)) = true ∧ wrap64 (n : Int) = (n : Int) ∧ (n : Int) < (n : Int) + 1 := by
  refine ⟨?_, ?_, decide_eq_true (by omega), decide_eq_true (by omega), IntWalk.wrap64_in _ (by omega), by omega⟩
  · rw [IntWalk.i64_in _ (by omega)]; omega
  · rw [IntWalk.i64_in _ (by omega)]; omega
/-- joined: neighbours that touch and are alike are made one. -/
theorem joinedI_any (v : Value) (l : List (PtV Int)) (w : World) (h : PtsI w v l) (hl : l.length ≤ 1000000) (hd : Row l) :
    Calls Tryz.prog 97 #[v] w fun e w' => ∃ x J, e = .returned x ∧ Weld l l.length J ∧ MRowI w' w.heap.size x J ∧ Below w.heap.size w w' := by
  obtain ⟨A, cap, rfl, h1, h2, h3⟩ := h.read
  have H3 := Lib.hid h3
  have HL := Lib.hid hl
  have HC1 := Lib.hid h1
  have HD := Lib.hid hd
  have hlen : (l.length : Int) ≤ 9223372036854775807 := by omega
  clear h h1 h2 h3 hl hd
  go_enter Tryz.func97, Tryz.ntmps97
  go_wp2_with fail
  go_loopw [3, 9] (fun s i wr => ∃ (k : Nat) (J : List (PtV Int)), k ≤ l.length ∧ i = .int .i64 k ∧ Hid (Weld l k J ∧ MRowI wr w.heap.size s J ∧ Below w.heap.size w wr)) (fun _ i _ => l.length - (intOf i).toNat)
  case atStart => exact ⟨0, [], by omega, rfl, Lib.hid ⟨Weld.start l, MRowI.nil _ _, Below.refl _ _⟩⟩
  case round =>
    obtain ⟨k, J, hk, rfl, hI⟩ := hrel
    by_cases hlt : k < l.length
    · obtain ⟨b1, o1, rfl, hbs, c0, c1, c2⟩ := H3.out k hlt
      obtain ⟨y, hy⟩ : ∃ y, y = l[k] := ⟨_, rfl⟩
      rw [← hy] at c0 c1 c2
      obtain ⟨⟨y0, y1⟩, yv⟩ := y
      simp only at c0 c1 c2
      have hB := hI.out.2.2
      have d0 := (hB.cell (p := ⟨b1, o1 + k * 3, none⟩) hbs).trans c0
      have d1 := (hB.cell (p := ⟨b1, o1 + k * 3 + 1, none⟩) hbs).trans c1
      have d2 := (hB.cell (p := ⟨b1, o1 + k * 3 + 2, none⟩) hbs).trans c2
      obtain ⟨p2, hp2⟩ : ∃ p, p = wr.heap.size := ⟨_, rfl⟩
      obtain ⟨w2, hw2⟩ : ∃ w2, w2 = wr.alloc (.cells #[.int .i64 y0, .int .i64 y1, (Value.int .i64 yv)] 73) := ⟨_, rfl⟩
      have hb2 : Below wr.heap.size wr w2 := hw2 ▸ (Below.refl _ wr).alloc (Nat.le_refl _) _
      have sq : Sits w2 p2 73 #[.int .i64 y0, .int .i64 y1, (Value.int .i64 yv)] := hw2 ▸ hp2 ▸ Sits.fresh wr _ _
      have hJl : J.length ≤ 1000000 := by have := hI.out.1.len; have := HL.out; omega
      have hJ2 : MRowI w2 w.heap.size u3 J := hI.out.2.1.below hb2
      have hB2 : Below w.heap.size w w2 := hI.out.2.2.trans (hb2.mono hI.out.2.2.size)
      have HW := Lib.hid hI.out.1
      have HY : Hid (∀ h : k < l.length, ((y0, y1), yv) = l[k]) := Lib.hid fun _ => hy
      have HLT := Lib.hid hlt
      have HJ := Lib.hid hJ2
      have HB := Lib.hid hB2
      have HSQ := Lib.hid sq
      have HJL := Lib.hid hJl
      have happ : ∀ W, Below w2.heap.size w2 W → ∃ A8 c8 W', (Builtin.append_ #[28, 28] 28 #[u3, .slice (some ⟨W.heap.size, 0, none⟩) 1 1]).run Tryz.prog (W.alloc (.cells #[.int .i64 y0, .int .i64 y1, (Value.int .i64 yv)] 73)) = .ok (.slice A8 ((J.length + 1 : Nat)) c8) W' ∧
          MRowI W' w.heap.size (.slice A8 ((J.length + 1 : Nat)) c8) (J ++ [((y0, y1), yv)]) ∧ Below w.heap.size w W' := fun W hW => by
        have hBW : Below w.heap.size w W := hB2.trans (hW.mono hB2.size)
        obtain ⟨A8, c8, W', hr, hX, hB8, _⟩ := pushMI_one (hJ2.below hW) ((y0, y1), yv) hBW.size hJl 28
        exact ⟨A8, c8, W', hr, hX, hBW.trans hB8⟩
      have HA := Lib.hid happ
      clear c0 c1 c2 hbs hB hb2 sq hy hJl hJ2 hB2 happ hI
      rcases List.eq_nil_or_concat J with rfl | ⟨p, u, rfl⟩
      · obtain ⟨AJ, cJ, rfl, -, -, -, -⟩ := HJ.out.form
        go_wp2_with fail
        rw [← hw2, ← hp2]
        clear hw2 hp2 d0 d1 d2
        refine wp_region_ex (by kernel_rfl) (fun W => Below w2.heap.size w2 W) (fun W W' => Below W.heap.size W W')
          [[(6, none)], [(16, some 0)], [(17, some 1)], [(3, none), (18, some 2)], [(6, none), (18, some 2)], [(18, some 2), (19, some 3), (20, some 4)], [(18, some 2), (21, some 5)], [(18, some 2), (22, some 6)], [(18, some 2), (23, some 7)], [(5, none), (18, some 2)], [(18, some 2), (25, some 9)], [(18, some 2), (26, some 10)], [(18, some 2), (24, some 8), (27, some 11)], [(18, some 2), (28, some 12)], [(29, some 13)], [(3, none), (30, some 14)], [(6, none), (30, some 14)], [(30, some 14), (31, some 15), (32, some 16)], [(30, some 14), (33, some 17)], [(30, some 14), (34, some 18)], [(5, none), (30, some 14)], [(30, some 14), (36, some 20)], [(30, some 14), (35, some 19), (37, some 21)], [(30, some 14), (38, some 22)]]
          [none, none, none, none, none, none, none, none, none, none, none, none, none, none, none, none, some 0, some 1, some 2, some 3, some 4, some 5, some 6, some 7, some 8, some 9, some 10, some 11, some 12, some 13, some 14, some 15, some 16, some 17, some 18, some 19, some 20, some 21, some 22, some 23, none, none, none, none, none, none, none, none, none, none, none, none, none, none] (by kernel_rfl) (by kernel_rfl) ((Below.refl _ _).drew) ?_
        iterate 3
          refine ex_pure (c := ?_) (fun _ _ => Below.refl _ _) ?_ ?_
          rotate_left
          · intro a' W hR hF
            simp only [FactsOf, List.nil_append, List.cons_append, List.getD_cons_zero, List.getD_cons_succ, exists_eq_left, and_true, List.getElem?_toArray, List.getElem?_cons_zero, List.getElem?_cons_succ] at hF
            refine ⟨?_, ?_⟩
            · simp [Region.wanted, yielded, hF]
            · go_simp
              with_reducible rfl
        iterate 10
          refine ex_skip (fun _ _ => Below.refl _ _) ?_ ?_
          · intro a' W hR hF
            simp only [FactsOf, List.nil_append, List.cons_append, List.getD_cons_zero, List.getD_cons_succ, exists_eq_left, and_true, List.getElem?_toArray, List.getElem?_cons_zero, List.getElem?_cons_succ] at hF
            simp [Region.wanted, yielded, hF]
        iterate 2
          refine ex_pure (c := ?_) (fun _ _ => Below.refl _ _) ?_ ?_
          rotate_left
          · intro a' W hR hF
            simp only [FactsOf, List.nil_append, List.cons_append, List.getD_cons_zero, List.getD_cons_succ, exists_eq_left, and_true, List.getElem?_toArray, List.getElem?_cons_zero, List.getElem?_cons_succ] at hF
            refine ⟨?_, ?_⟩
            · simp [Region.wanted, yielded, hF]
            · go_simp
              with_reducible rfl
        iterate 8
          refine ex_skip (fun _ _ => Below.refl _ _) ?_ ?_
          · intro a' W hR hF
            simp only [FactsOf, List.nil_append, List.cons_append, List.getD_cons_zero, List.getD_cons_succ, exists_eq_left, and_true, List.getElem?_toArray, List.getElem?_cons_zero, List.getElem?_cons_succ] at hF
            simp [Region.wanted, yielded, hF]
        iterate 1
          refine ex_pure (c := ?_) (fun _ _ => Below.refl _ _) ?_ ?_
          rotate_left
          · intro a' W hR hF
            simp only [FactsOf, List.nil_append, List.cons_append, List.getD_cons_zero, List.getD_cons_succ, exists_eq_left, and_true, List.getElem?_toArray, List.getElem?_cons_zero, List.getElem?_cons_succ] at hF
            refine ⟨?_, ?_⟩
            · simp [Region.wanted, yielded, hF]
            · go_simp
              with_reducible rfl
        show ∀ W, _ → _
        intro w3 hR2
        simp only [FinOf, List.nil_append, List.cons_append, List.getD_cons_zero, List.getD_cons_succ, forall_eq, forall_exists_index, and_imp, Nat.reduceAdd, Array.getD_eq_getD_getElem?, List.getElem?_toArray, List.getElem?_cons_zero, List.getElem?_cons_succ, Option.getD_some]
        obtain ⟨A8, c8, w8, hr8, hX8, hB8⟩ := HA.out w3 hR2
        have z0 := (HSQ.out.below' hR2).cell 0
        have z1 := (HSQ.out.below' hR2).cell 1
        have z2 := (HSQ.out.below' hR2).cell 2
        simp at z0 z1 z2
        have HX8 := Lib.hid (And.intro hX8 hB8)
        clear hR2 hX8 hB8
        go_wp2_with (at_builtin; refine Lib.wpList_append_run _ rfl _ _ _ _ rfl _ _ rfl rfl _ _ hr8 ?_)
        go_roundw
        case measure => simp [intOf]; omega
        case rel => exact ⟨k + 1, _, by omega, by go_num, Lib.hid ⟨by have := HW.out.more HD.out HLT.out (fun p u e => by simp at e); rwa [← HY.out HLT.out] at this, HX8.out.1, HX8.out.2⟩⟩
      · rw [List.concat_eq_append] at *
        have hl1 : (p ++ [u]).length = p.length + 1 := by simp
        obtain ⟨AJ, cJ, hAJ, -, hcJ, hpos, hat⟩ := HJ.out.form
        rw [hl1] at hAJ hpos
        obtain ⟨g, o, rfl⟩ := hpos (by omega)
        subst hAJ
        obtain ⟨hg0, hgl, hcell, hwarm⟩ := hat g o rfl
        have hcu : ∀ j, j < 3 → ∀ x, (encMI u)[j]? = some x → w2.cell? ⟨g, o + p.length * 3 + j, none⟩ = some x := fun j hj x hx => by
          have := hcell (p.length * 3 + j) x (by
            rw [cellsMI_at (p ++ [u]) p.length j (by simp) hj]
            simpa using hx)
          rwa [← Nat.add_assoc] at this
        obtain ⟨⟨v0, v1⟩, vv⟩ := u
        have k1 := hcu 1 (by omega) _ rfl
        have k2 := hcu 2 (by omega) _ rfl
        simp only at k1 k2
        have K1 := Lib.hid k1
        have K2 := Lib.hid k2
        have HG := Lib.hid (And.intro hg0 (And.intro hgl hwarm))
        have HPL : Hid (p.length + 1 ≤ 1000000) := Lib.hid (by have := HJL.out; simpa using this)
        obtain ⟨m1, m2, m3, m4, m5, m6⟩ := last_facts p.length HPL.out
        clear hcu k1 k2 hcell hwarm hat hpos hcJ
        have hl1' := Lib.hid hl1
        clear hl1
        have hl1 := hl1'.out
        clear hl1'
        by_cases e1 : v1 = y0
        · subst e1
          by_cases e2 : vv = yv
          · subst e2
            have hsm : ∀ W, Calls Tryz.prog 28 #[(Value.int .i64 vv), (Value.int .i64 vv)] W fun e w' => e = .returned (.bool true) ∧ Below W.heap.size W w' := fun W => by
              have := sameI_any vv vv W
              rwa [show decide (vv = vv) = true by simp] at this
            have HSM := Lib.hid hsm
            clear hsm
            go_wp2_with fail
            rw [← hw2, ← hp2]
            clear hw2 hp2 d0 d1 d2
            refine wp_region_ex (by kernel_rfl) (fun W => Below w2.heap.size w2 W) (fun W W' => Below W.heap.size W W')
              [[(6, none)], [(16, some 0)], [(17, some 1)], [(3, none), (18, some 2)], [(6, none), (18, some 2)], [(18, some 2), (19, some 3), (20, some 4)], [(18, some 2), (21, some 5)], [(18, some 2), (22, some 6)], [(18, some 2), (23, some 7)], [(5, none), (18, some 2)], [(18, some 2), (25, some 9)], [(18, some 2), (26, some 10)], [(18, some 2), (24, some 8), (27, some 11)], [(18, some 2), (28, some 12)], [(29, some 13)], [(3, none), (30, some 14)], [(6, none), (30, some 14)], [(30, some 14), (31, some 15), (32, some 16)], [(30, some 14), (33, some 17)], [(30, some 14), (34, some 18)], [(5, none), (30, some 14)], [(30, some 14), (36, some 20)], [(30, some 14), (35, some 19), (37, some 21)], [(30, some 14), (38, some 22)]]
              [none, none, none, none, none, none, none, none, none, none, none, none, none, none, none, none, some 0, some 1, some 2, some 3, some 4, some 5, some 6, some 7, some 8, some 9, some 10, some 11, some 12, some 13, some 14, some 15, some 16, some 17, some 18, some 19, some 20, some 21, some 22, some 23, none, none, none, none, none, none, none, none, none, none, none, none, none, none] (by kernel_rfl) (by kernel_rfl) ((Below.refl _ _).drew) ?_
            iterate 22
              refine ex_pure (c := ?_) (fun _ _ => Below.refl _ _) ?_ ?_
              rotate_left
              · intro a' W hR hF
                simp only [FactsOf, List.nil_append, List.cons_append, List.getD_cons_zero, List.getD_cons_succ, exists_eq_left, and_true, List.getElem?_toArray, List.getElem?_cons_zero, List.getElem?_cons_succ] at hF
                have k0 := (HSQ.out.below' hR).cell 0
                have k2 := (HSQ.out.below' hR).cell 2
                have k3 := (hR.cell (p := ⟨g, o + p.length * 3 + 1, none⟩) HG.out.2.1).trans K1.out
                have k4 := (hR.cell (p := ⟨g, o + p.length * 3 + 2, none⟩) HG.out.2.1).trans K2.out
                simp at k0 k2
                refine ⟨?_, ?_⟩
                · simp [Region.wanted, yielded, hF]
                · go_simp
                  with_reducible rfl
            refine ex_callx (.bool true) (fun a' W hR hF => ?_) ?_
            ·
              simp only [FactsOf, List.nil_append, List.cons_append, List.getD_cons_zero, List.getD_cons_succ, exists_eq_left, and_true, List.getElem?_toArray, List.getElem?_cons_zero, List.getElem?_cons_succ] at hF
              exact ⟨by simp [Region.wanted, yielded, hF], 28, #[(Value.int .i64 vv), (Value.int .i64 vv)], by go_simp, (HSM.out W).mono fun e w' ⟨he, hB⟩ => ⟨he, hR.trans (hB.mono hR.size), hB⟩⟩
            iterate 1
              refine ex_pure (c := ?_) (fun _ _ => Below.refl _ _) ?_ ?_
              rotate_left
              · intro a' W hR hF
                simp only [FactsOf, List.nil_append, List.cons_append, List.getD_cons_zero, List.getD_cons_succ, exists_eq_left, and_true, List.getElem?_toArray, List.getElem?_cons_zero, List.getElem?_cons_succ] at hF
                refine ⟨?_, ?_⟩
                · simp [Region.wanted, yielded, hF]
                · go_simp
                  with_reducible rfl
            show ∀ W, _ → _
            intro w3 hR2
            simp only [FinOf, List.nil_append, List.cons_append, List.getD_cons_zero, List.getD_cons_succ, forall_eq, forall_exists_index, and_imp, Nat.reduceAdd, Array.getD_eq_getD_getElem?, List.getElem?_toArray, List.getElem?_cons_zero, List.getElem?_cons_succ, Option.getD_some]
            have z1 := (HSQ.out.below' hR2).cell 1
            simp at z1
            have q1 := (hR2.cell (p := ⟨g, o + p.length * 3 + 1, none⟩) HG.out.2.1).trans K1.out
            have hX8 := (HJ.out.below hR2)
            rw [hl1] at hX8
            have r1 : w3.frozen? ⟨g, o + p.length * 3 + 1, none⟩ = false := hX8.warmAt rfl _
            have hX7 : MRowI w3 w.heap.size (.slice (some ⟨g, o, none⟩) (p.length + 1) cJ) (p ++ [((v0, v1), vv)]) := HJ.out.below hR2
            have hX9 := MRowI.set (p := p) (u := ((v0, v1), vv)) hX7 y1
            obtain ⟨w8, hw8⟩ : ∃ w8, w8 = w3.setCell ⟨g, o + p.length * 3 + 1, none⟩ (.int .i64 y1) := ⟨_, rfl⟩
            rw [← hw8] at hX9
            have hB8 : Below w.heap.size w w8 := hw8 ▸ below_put (HB.out.trans (hR2.mono HB.out.size)) HG.out.1 _ _
            have HX9 := Lib.hid hX9
            have HB8 := Lib.hid hB8
            clear hX7 hX8 hX9 hB8 hR2
            go_wp2
            rw [← hw8]
            go_roundw
            case measure => simp [intOf]; omega
            case rel => exact ⟨k + 1, _, by omega, by go_num, Lib.hid ⟨by have := HW.out.join HD.out HLT.out (by rw [← HY.out HLT.out]) (by rw [← HY.out HLT.out]); rwa [← HY.out HLT.out] at this, HX9.out, HB8.out⟩⟩
          · have hsm : ∀ W, Calls Tryz.prog 28 #[(Value.int .i64 vv), (Value.int .i64 yv)] W fun e w' => e = .returned (.bool false) ∧ Below W.heap.size W w' := fun W => by
              have := sameI_any vv yv W
              rwa [show decide (vv = yv) = false by simpa using e2] at this
            have HSM := Lib.hid hsm
            have HE := Lib.hid e2
            clear hsm e2
            go_wp2_with fail
            rw [← hw2, ← hp2]
            clear hw2 hp2 d0 d1 d2
            refine wp_region_ex (by kernel_rfl) (fun W => Below w2.heap.size w2 W) (fun W W' => Below W.heap.size W W')
              [[(6, none)], [(16, some 0)], [(17, some 1)], [(3, none), (18, some 2)], [(6, none), (18, some 2)], [(18, some 2), (19, some 3), (20, some 4)], [(18, some 2), (21, some 5)], [(18, some 2), (22, some 6)], [(18, some 2), (23, some 7)], [(5, none), (18, some 2)], [(18, some 2), (25, some 9)], [(18, some 2), (26, some 10)], [(18, some 2), (24, some 8), (27, some 11)], [(18, some 2), (28, some 12)], [(29, some 13)], [(3, none), (30, some 14)], [(6, none), (30, some 14)], [(30, some 14), (31, some 15), (32, some 16)], [(30, some 14), (33, some 17)], [(30, some 14), (34, some 18)], [(5, none), (30, some 14)], [(30, some 14), (36, some 20)], [(30, some 14), (35, some 19), (37, some 21)], [(30, some 14), (38, some 22)]]
              [none, none, none, none, none, none, none, none, none, none, none, none, none, none, none, none, some 0, some 1, some 2, some 3, some 4, some 5, some 6, some 7, some 8, some 9, some 10, some 11, some 12, some 13, some 14, some 15, some 16, some 17, some 18, some 19, some 20, some 21, some 22, some 23, none, none, none, none, none, none, none, none, none, none, none, none, none, none] (by kernel_rfl) (by kernel_rfl) ((Below.refl _ _).drew) ?_
            iterate 22
              refine ex_pure (c := ?_) (fun _ _ => Below.refl _ _) ?_ ?_
              rotate_left
              · intro a' W hR hF
                simp only [FactsOf, List.nil_append, List.cons_append, List.getD_cons_zero, List.getD_cons_succ, exists_eq_left, and_true, List.getElem?_toArray, List.getElem?_cons_zero, List.getElem?_cons_succ] at hF
                have k0 := (HSQ.out.below' hR).cell 0
                have k2 := (HSQ.out.below' hR).cell 2
                have k3 := (hR.cell (p := ⟨g, o + p.length * 3 + 1, none⟩) HG.out.2.1).trans K1.out
                have k4 := (hR.cell (p := ⟨g, o + p.length * 3 + 2, none⟩) HG.out.2.1).trans K2.out
                simp at k0 k2
                refine ⟨?_, ?_⟩
                · simp [Region.wanted, yielded, hF]
                · go_simp
                  with_reducible rfl
            refine ex_callx (.bool false) (fun a' W hR hF => ?_) ?_
            ·
              simp only [FactsOf, List.nil_append, List.cons_append, List.getD_cons_zero, List.getD_cons_succ, exists_eq_left, and_true, List.getElem?_toArray, List.getElem?_cons_zero, List.getElem?_cons_succ] at hF
              exact ⟨by simp [Region.wanted, yielded, hF], 28, #[(Value.int .i64 vv), (Value.int .i64 yv)], by go_simp, (HSM.out W).mono fun e w' ⟨he, hB⟩ => ⟨he, hR.trans (hB.mono hR.size), hB⟩⟩
            iterate 1
              refine ex_pure (c := ?_) (fun _ _ => Below.refl _ _) ?_ ?_
              rotate_left
              · intro a' W hR hF
                simp only [FactsOf, List.nil_append, List.cons_append, List.getD_cons_zero, List.getD_cons_succ, exists_eq_left, and_true, List.getElem?_toArray, List.getElem?_cons_zero, List.getElem?_cons_succ] at hF
                refine ⟨?_, ?_⟩
                · simp [Region.wanted, yielded, hF]
                · go_simp
                  with_reducible rfl
            show ∀ W, _ → _
            intro w3 hR2
            simp only [FinOf, List.nil_append, List.cons_append, List.getD_cons_zero, List.getD_cons_succ, forall_eq, forall_exists_index, and_imp, Nat.reduceAdd, Array.getD_eq_getD_getElem?, List.getElem?_toArray, List.getElem?_cons_zero, List.getElem?_cons_succ, Option.getD_some]
            obtain ⟨A8, c8, w8, hr8, hX8, hB8⟩ := HA.out w3 hR2
            rw [hl1] at hr8 hX8
            have z0 := (HSQ.out.below' hR2).cell 0
            have z1 := (HSQ.out.below' hR2).cell 1
            have z2 := (HSQ.out.below' hR2).cell 2
            simp at z0 z1 z2
            have HX8 := Lib.hid (And.intro hX8 hB8)
            clear hR2 hX8 hB8
            go_wp2_with (at_builtin; refine Lib.wpList_append_run _ rfl _ _ _ _ rfl _ _ rfl rfl _ _ hr8 ?_)
            go_roundw
            case measure => simp [intOf]; omega
            case rel => exact ⟨k + 1, _, by omega, by go_num, Lib.hid ⟨by have := HW.out.more HD.out HLT.out (fun p' u' e => by obtain ⟨_, rfl⟩ := List.append_singleton_inj.1 e; rw [← HY.out HLT.out]; exact fun h => HE.out h.2); rwa [← HY.out HLT.out] at this, HX8.out.1, HX8.out.2⟩⟩
        · have hne : (v1 == y0) = false := by simpa using e1
          have HE := Lib.hid e1
          clear e1
          go_wp2_with fail
          rw [← hw2, ← hp2]
          clear hw2 hp2 d0 d1 d2
          refine wp_region_ex (by kernel_rfl) (fun W => Below w2.heap.size w2 W) (fun W W' => Below W.heap.size W W')
            [[(6, none)], [(16, some 0)], [(17, some 1)], [(3, none), (18, some 2)], [(6, none), (18, some 2)], [(18, some 2), (19, some 3), (20, some 4)], [(18, some 2), (21, some 5)], [(18, some 2), (22, some 6)], [(18, some 2), (23, some 7)], [(5, none), (18, some 2)], [(18, some 2), (25, some 9)], [(18, some 2), (26, some 10)], [(18, some 2), (24, some 8), (27, some 11)], [(18, some 2), (28, some 12)], [(29, some 13)], [(3, none), (30, some 14)], [(6, none), (30, some 14)], [(30, some 14), (31, some 15), (32, some 16)], [(30, some 14), (33, some 17)], [(30, some 14), (34, some 18)], [(5, none), (30, some 14)], [(30, some 14), (36, some 20)], [(30, some 14), (35, some 19), (37, some 21)], [(30, some 14), (38, some 22)]]
            [none, none, none, none, none, none, none, none, none, none, none, none, none, none, none, none, some 0, some 1, some 2, some 3, some 4, some 5, some 6, some 7, some 8, some 9, some 10, some 11, some 12, some 13, some 14, some 15, some 16, some 17, some 18, some 19, some 20, some 21, some 22, some 23, none, none, none, none, none, none, none, none, none, none, none, none, none, none] (by kernel_rfl) (by kernel_rfl) ((Below.refl _ _).drew) ?_
          iterate 15
            refine ex_pure (c := ?_) (fun _ _ => Below.refl _ _) ?_ ?_
            rotate_left
            · intro a' W hR hF
              simp only [FactsOf, List.nil_append, List.cons_append, List.getD_cons_zero, List.getD_cons_succ, exists_eq_left, and_true, List.getElem?_toArray, List.getElem?_cons_zero, List.getElem?_cons_succ] at hF
              have k0 := (HSQ.out.below' hR).cell 0
              have k2 := (HSQ.out.below' hR).cell 2
              have k3 := (hR.cell (p := ⟨g, o + p.length * 3 + 1, none⟩) HG.out.2.1).trans K1.out
              have k4 := (hR.cell (p := ⟨g, o + p.length * 3 + 2, none⟩) HG.out.2.1).trans K2.out
              simp at k0 k2
              refine ⟨?_, ?_⟩
              · simp [Region.wanted, yielded, hF]
              · go_simp
                with_reducible rfl
          iterate 8
            refine ex_skip (fun _ _ => Below.refl _ _) ?_ ?_
            · intro a' W hR hF
              simp only [FactsOf, List.nil_append, List.cons_append, List.getD_cons_zero, List.getD_cons_succ, exists_eq_left, and_true, List.getElem?_toArray, List.getElem?_cons_zero, List.getElem?_cons_succ] at hF
              simp [Region.wanted, yielded, hF]
          iterate 1
            refine ex_pure (c := ?_) (fun _ _ => Below.refl _ _) ?_ ?_
            rotate_left
            · intro a' W hR hF
              simp only [FactsOf, List.nil_append, List.cons_append, List.getD_cons_zero, List.getD_cons_succ, exists_eq_left, and_true, List.getElem?_toArray, List.getElem?_cons_zero, List.getElem?_cons_succ] at hF
              refine ⟨?_, ?_⟩
              · simp [Region.wanted, yielded, hF]
              · go_simp
                with_reducible rfl
          show ∀ W, _ → _
          intro w3 hR2
          simp only [FinOf, List.nil_append, List.cons_append, List.getD_cons_zero, List.getD_cons_succ, forall_eq, forall_exists_index, and_imp, Nat.reduceAdd, Array.getD_eq_getD_getElem?, List.getElem?_toArray, List.getElem?_cons_zero, List.getElem?_cons_succ, Option.getD_some]
          obtain ⟨A8, c8, w8, hr8, hX8, hB8⟩ := HA.out w3 hR2
          rw [hl1] at hr8 hX8
          have z0 := (HSQ.out.below' hR2).cell 0
          have z1 := (HSQ.out.below' hR2).cell 1
          have z2 := (HSQ.out.below' hR2).cell 2
          simp at z0 z1 z2
          have HX8 := Lib.hid (And.intro hX8 hB8)
          clear hR2 hX8 hB8
          go_wp2_with (at_builtin; refine Lib.wpList_append_run _ rfl _ _ _ _ rfl _ _ rfl rfl _ _ hr8 ?_)
          go_roundw
          case measure => simp [intOf]; omega
          case rel => exact ⟨k + 1, _, by omega, by go_num, Lib.hid ⟨by have := HW.out.more HD.out HLT.out (fun p' u' e => by obtain ⟨_, rfl⟩ := List.append_singleton_inj.1 e; rw [← HY.out HLT.out]; exact fun h => HE.out h.1); rwa [← HY.out HLT.out] at this, HX8.out.1, HX8.out.2⟩⟩
    · obtain rfl : k = l.length := by omega
      clear hk hlt
      go_wp2
      go_ret
      exact ⟨_, J, rfl, hI.out.1, hI.out.2.1, hI.out.2.2⟩
end Go.Proofs.YtfbpmkecfmkffaaGreat
