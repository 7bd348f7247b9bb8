/- Package sess: meet; Tick's loop over what waits. -/
import Derived.Test.YtbpcbdlmkoajdaaSesD
namespace Go.Proofs.Ytbpcbdlmkoajdaa
open Go Go.RowKit Go.Maps SesP
set_option maxRecDepth 100000
set_option maxHeartbeats 2000000
set_option linter.unusedSimpArgs false
namespace SesP
/-- The first k of a list are turned. -/
def turnK (f : Msg → Msg) (l : List Msg) (k : Nat) : List Msg := (l.take k).map f ++ l.drop k
theorem turnK_zero (f : Msg → Msg) (l : List Msg) : turnK f l 0 = l := by simp [turnK]
theorem turnK_all (f : Msg → Msg) (l : List Msg) : turnK f l l.length = l.map f := by simp [turnK]
theorem turnK_len (f : Msg → Msg) (l : List Msg) (k : Nat) (_h : k ≤ l.length) : (turnK f l k).length = l.length := by
  unfold turnK
  rw [List.length_append, List.length_map, List.length_take, List.length_drop]
  omega
theorem turnK_step (f : Msg → Msg) (l : List Msg) (k : Nat) (h : k < l.length) : (turnK f l k).set k (f l[k]) = turnK f l (k + 1) := by
  unfold turnK
  have h3 : ((l.take k).map f).length = k := by rw [List.length_map, List.length_take]; omega
  rw [List.set_append_right _ _ (by omega), h3, Nat.sub_self, List.drop_eq_getElem_cons h, List.set_cons_zero, List.take_succ_eq_append_getElem h, List.map_append, List.append_assoc]
  rfl
end SesP
theorem cellsM_two (l : List Msg) (k : Nat) (h : k < l.length) : (cellsM l)[k * 2]? = some (.string (str l[k].d)) ∧ (cellsM l)[k * 2 + 1]? = some (.int .i64 (l[k].l : Int)) := by
  have h0 := cellsM_at l k 0 h (by omega)
  have h1 := cellsM_at l k 1 h (by omega)
  rw [Nat.add_zero] at h0
  exact ⟨h0, h1⟩
section
variable {g p q m nn c : Nat} {s : Ses} {S : Nat → Prop} {w : World}
/-- What a loop over the ring has: the list lies at b, the first k are turned. -/
structure LoopR (g p q m nn : Nat) (s : Ses) (S : Nat → Prop) (w : World) (f : Msg → Msg) (l : List Msg) (b k : Nat) (W : World) : Prop where
  sr : SR g p q m nn { s with W := turnK f l k } (fun i => S i ∧ i ≠ b) W
  list : Sits W b 46 (cellsM l).toArray
  many : Many S w W
theorem LoopR.below {f : Msg → Msg} {l : List Msg} {b k : Nat} {W W' : World} (h : LoopR g p q m nn s S w f l b k W) (hb : Below W.heap.size W W') : LoopR g p q m nn s S w f l b k W' :=
  ⟨h.sr.below hb, h.list.below' hb, h.many.trans (Many.of_below S hb)⟩
theorem LoopR.set {f : Msg → Msg} {l : List Msg} {b k : Nat} {W : World} (hS : ∀ i, W.heap.size ≤ i → S i) (h : LoopR g p q m nn s S w f l b k W) (hk : k < l.length) (x : Msg) (hx : x = f l[k]) :
    Calls Try.prog 20 #[.pointer (some ⟨p, 0, none⟩), .int .i64 k, .agg #[.string (str x.d), .int .i64 (x.l : Int)]] W fun e w' => e = .returned (.bool true) ∧ LoopR g p q m nn s S w f l b (k + 1) w' := by
  have hbl := h.list.lt
  refine (setM_in p q 64 (turnK f l k) k x W h.sr.ring (by rw [turnK_len f l k (by omega)]; exact hk)).mono ?_
  rintro e w' ⟨rfl, hr, ht⟩
  have h1 := SR.turn (S := fun i => S i ∧ i ≠ b) (fun i hi => ⟨hS i hi, by omega⟩) h.sr (.inl rfl) hr ht
  rw [hx, turnK_step f l k hk] at h1
  exact ⟨rfl, h1.1, (h1.2.block b hbl (fun e => e.2 rfl)).trans h.list, h.many.trans (h1.2.mono fun i _ hi => hi.1)⟩

theorem smeet_any (hS : ∀ k, w.heap.size ≤ k → S k) (h : SR g p q m nn s S w) (life : Int) :
    Calls Try.prog 22 #[.pointer (some ⟨g, 0, none⟩), .int .i64 life] w fun e w' => e = .returned (.tuple #[]) ∧ SR g p q m 0 (meetS s life) S w' ∧ Many S w w' := by
  have HS := Lib.hid hS
  -- what waits, behind the first test
  obtain ⟨W0, hW0⟩ : ∃ W0, W0 = (if 0 < s.y then [] else s.W) := ⟨_, rfl⟩
  have HM : Hid (meetS s life = { s with W := W0.map now, y := life, k := 0, n := 0, A := fun _ => none }) := Lib.hid (by rw [hW0]; rfl)
  rw [HM.out]
  have hlen0 : W0.length ≤ 64 := by
    have := h.len
    rw [hW0]
    split
    · simp
    · exact this
  -- the list, the loop, and what is behind it, once the ring holds W0
  have HREST : Hid (∀ (W : World), SR g p q m nn { s with W := W0 } S W → Many S w W → Calls Try.prog 19 #[.pointer (some ⟨p, 0, none⟩)] W fun e w' => ∃ b, e = .returned (.slice (some ⟨b, 0, none⟩) W0.length W0.length) ∧ b < w'.heap.size ∧ w.heap.size ≤ b ∧ LoopR g p q m nn s S w now W0 b 0 w') := Lib.hid fun W hW hm => by
    refine (listM_any p q 64 W0 W hW.ring).mono ?_
    rintro e w' ⟨rfl, hs, hb⟩
    refine ⟨_, rfl, hs.lt, hm.size, ?_, hs, hm.trans (Many.of_below S hb)⟩
    rw [turnK_zero]
    exact (hW.less.below hb).mono fun k hk => ⟨hk.1, by have := hk.2; omega⟩
  obtain ⟨c0, c1, c2, c3, c4, c5, c6, c7, c8, hl⟩ := h.cells
  have HC : Hid (0 < s.y → Calls Try.prog 34 #[.pointer (some ⟨p, 0, none⟩)] w fun e w' => e = .returned (.int .i64 s.W.length) ∧ SR g p q m nn { s with W := W0 } S w' ∧ Many S w w') := Lib.hid fun hy => by
    refine (clearM_any p q 64 s.W w h.ring).mono ?_
    rintro e w' ⟨rfl, hr, ht⟩
    have := SR.turn hS h (.inl rfl) hr ht
    rw [hW0, if_pos hy]
    exact ⟨rfl, this⟩
  have H0 : Hid (¬ 0 < s.y → SR g p q m nn { s with W := W0 } S w) := Lib.hid fun hy => by rw [hW0, if_neg hy]; exact h
  clear h hW0 hS
  have HTAIL : Hid (∀ b W, LoopR g p q m nn s S w now W0 b W0.length W → ∃ W', W.cell? ⟨g, 7, none⟩ = some (.map (some m)) ∧ g < W.heap.size ∧ (∀ i, W.frozen? ⟨g, i, none⟩ = false) ∧
      (Builtin.clear_ #[47] 0 #[.map (some m)]).run Try.prog (((W.setCell ⟨g, 3, none⟩ (.int .i64 life)).setCell ⟨g, 5, none⟩ (.int .i64 0)).setCell ⟨g, 6, none⟩ (.int .i64 0)) = .ok (.tuple #[]) W' ∧
      SR g p q m 0 { s with W := W0.map now, y := life, k := 0, n := 0, A := fun _ => none } S W' ∧ Many S w W') := Lib.hid fun b W hW => by
    have h1 := hW.sr
    rw [turnK_all] at h1
    have h1 := h1.mono (S' := S) fun k hk => hk.1
    have h2 := h1.cell 3 (.int .i64 life) (s' := { s with W := W0.map now, y := life }) rfl rfl rfl
    have h3 := h2.1.cell 5 (.int .i64 0) (s' := { s with W := W0.map now, y := life, k := 0 }) rfl rfl rfl
    have h4 := h3.1.cell 6 (.int .i64 0) (s' := { s with W := W0.map now, y := life, k := 0, n := 0 }) rfl rfl rfl
    obtain ⟨W', hrun, hm, ht⟩ := h4.1.map.clear 0
    have h5 := h4.1.ahead hm ht
    exact ⟨W', h1.cells.2.2.2.2.2.2.2.1, h1.sits.lt, fun i => h1.sits.warm i, hrun, h5.1, (((hW.many.trans h2.2).trans h3.2).trans h4.2).trans h5.2⟩

  by_cases hy : 0 < s.y
  · have d1 : decide (0 < s.y) = true := decide_eq_true hy
    have HCL := Lib.hid (HC.out hy)
    clear hy HC H0 HM c0 c1 c2 c5 c6 c7 c8
    go_enter Try.func22, Try.ntmps22
    go_wp2_with fail
    refine HCL.out.mono ?_
    rintro e w1 ⟨rfl, h1, hm1⟩
    have c4 : w1.cell? ⟨g, 4, none⟩ = some (.pointer (some ⟨p, 0, none⟩)) := h1.cells.2.2.2.2.1
    have hl1 := h1.sits.lt
    have HL1 := Lib.hid (HREST.out w1 h1 hm1)
    clear h1 hm1 HCL HREST c3
    go_wp2_with fail
    refine HL1.out.mono ?_
    rintro e w2 ⟨b, rfl, hbl, hbw, hL0⟩
    have HL0 := Lib.hid hL0
    clear hL0 HL1
    go_wp2_with fail
    go_loopw [22] (fun v wr => ∃ k : Nat, k ≤ W0.length ∧ v = .int .i64 k ∧ Hid (LoopR g p q m nn s S w now W0 b k wr)) (fun v _ => W0.length - (intOf v).toNat)
    case atStart => exact ⟨0, Nat.zero_le _, rfl, HL0⟩
    case round =>
      obtain ⟨k, hk, rfl, hI⟩ := hrel
      by_cases hlt : k < W0.length
      · have hltI : (k : Int) < (W0.length : Int) := by omega
        have hkI : (k : Int) ≤ 64 := by omega
        obtain ⟨e0, e1⟩ := cellsM_two W0 k hlt
        have lc0 : wr.cell? ⟨b, k * 2, none⟩ = some (.string (str W0[k].d)) := by rw [hI.out.list.cell]; simpa using e0
        have lc1 : wr.cell? ⟨b, k * 2 + 1, none⟩ = some (.int .i64 (W0[k].l : Int)) := by rw [hI.out.list.cell]; simpa using e1
        have hbl := hI.out.list.lt
        have hnow : now W0[k] = ⟨W0[k].d, 0⟩ := rfl
        obtain ⟨x, hx⟩ : ∃ x, x = W0[k] := ⟨_, rfl⟩
        rw [← hx] at lc0 lc1 hnow
        obtain ⟨W1, hW1⟩ : ∃ W, W = wr.alloc (.cells #[.string (str x.d), .int .i64 0] 46) := ⟨_, rfl⟩
        have hb1 : Below wr.heap.size wr W1 := hW1 ▸ (Below.refl _ wr).alloc (Nat.le_refl _) _
        have hs1 : Sits W1 wr.heap.size 46 #[.string (str x.d), .int .i64 0] := hW1 ▸ Sits.fresh wr _ _
        have m0 : W1.cell? ⟨wr.heap.size, 0, none⟩ = some (.string (str x.d)) := hs1.cell 0
        have m1 : W1.cell? ⟨wr.heap.size, 1, none⟩ = some (.int .i64 0) := hs1.cell 1
        have hml := hs1.lt
        have hL1 := hI.out.below hb1
        have c4 : W1.cell? ⟨g, 4, none⟩ = some (.pointer (some ⟨p, 0, none⟩)) := hL1.sr.cells.2.2.2.2.1
        have hgl := hL1.sr.sits.lt
        have HSET : Hid (∀ W, Below W1.heap.size W1 W → Calls Try.prog 20 #[.pointer (some ⟨p, 0, none⟩), .int .i64 k, .agg #[.string (str x.d), .int .i64 0]] W fun e w' => e = .returned (.bool true) ∧ LoopR g p q m nn s S w now W0 b (k + 1) w') := Lib.hid fun W hW =>
          LoopR.set (fun i hi => HS.out i (Nat.le_trans (Nat.le_trans hI.out.many.size hb1.size) (Nat.le_trans hW.size hi))) (hL1.below hW) hlt ⟨x.d, 0⟩ (by rw [← hx, hnow])
        have HLT := Lib.hid hlt
        clear hb1 hs1 hL1 e0 e1 hx hnow hI hlt
        go_wp2_with fail
        rw [← hW1]
        clear hW1 lc0 lc1 hbl
        go_region_with (go_at_call 20; refine (HSET.out _ (by first | exact Below.refl _ _ | exact (Below.refl _ _).drew)).mono ?_; rintro e w4 ⟨rfl, hL4⟩)
        all_goals
          have HL4 := Lib.hid hL4
          clear hL4
          go_wp2_with fail
          refine ⟨⟨k + 1, HLT.out, by go_num, HL4⟩, by simp [intOf]; have := HLT.out; omega⟩
      · obtain rfl : k = W0.length := by omega
        obtain ⟨W', z7, hgl, hfz, hrun, hZ⟩ := HTAIL.out b wr hI.out
        have f3 := hfz 3
        have f5 := hfz 5
        have f6 := hfz 6
        have hx := hI.out.sr.cells
        obtain ⟨-, -, -, y3, -, y5, y6, -, -, -⟩ := hx
        have HZ := Lib.hid hZ
        clear hZ hfz hI
        go_wp2
        go_end0
        exact ⟨rfl, HZ.out⟩
  · have d1 : decide (0 < s.y) = false := decide_eq_false hy
    have HL1 := Lib.hid (HREST.out w (H0.out hy) (Many.refl S w))
    clear hy HC H0 HM c0 c1 c2 c5 c6 c7 c8 HREST
    go_enter Try.func22, Try.ntmps22
    go_wp2_with fail
    refine HL1.out.mono ?_
    rintro e w2 ⟨b, rfl, hbl, hbw, hL0⟩
    have HL0 := Lib.hid hL0
    clear hL0 HL1
    go_wp2_with fail
    go_loopw [22] (fun v wr => ∃ k : Nat, k ≤ W0.length ∧ v = .int .i64 k ∧ Hid (LoopR g p q m nn s S w now W0 b k wr)) (fun v _ => W0.length - (intOf v).toNat)
    case atStart => exact ⟨0, Nat.zero_le _, rfl, HL0⟩
    case round =>
      obtain ⟨k, hk, rfl, hI⟩ := hrel
      by_cases hlt : k < W0.length
      · have hltI : (k : Int) < (W0.length : Int) := by omega
        have hkI : (k : Int) ≤ 64 := by omega
        obtain ⟨e0, e1⟩ := cellsM_two W0 k hlt
        have lc0 : wr.cell? ⟨b, k * 2, none⟩ = some (.string (str W0[k].d)) := by rw [hI.out.list.cell]; simpa using e0
        have lc1 : wr.cell? ⟨b, k * 2 + 1, none⟩ = some (.int .i64 (W0[k].l : Int)) := by rw [hI.out.list.cell]; simpa using e1
        have hbl := hI.out.list.lt
        have hnow : now W0[k] = ⟨W0[k].d, 0⟩ := rfl
        obtain ⟨x, hx⟩ : ∃ x, x = W0[k] := ⟨_, rfl⟩
        rw [← hx] at lc0 lc1 hnow
        obtain ⟨W1, hW1⟩ : ∃ W, W = wr.alloc (.cells #[.string (str x.d), .int .i64 0] 46) := ⟨_, rfl⟩
        have hb1 : Below wr.heap.size wr W1 := hW1 ▸ (Below.refl _ wr).alloc (Nat.le_refl _) _
        have hs1 : Sits W1 wr.heap.size 46 #[.string (str x.d), .int .i64 0] := hW1 ▸ Sits.fresh wr _ _
        have m0 : W1.cell? ⟨wr.heap.size, 0, none⟩ = some (.string (str x.d)) := hs1.cell 0
        have m1 : W1.cell? ⟨wr.heap.size, 1, none⟩ = some (.int .i64 0) := hs1.cell 1
        have hml := hs1.lt
        have hL1 := hI.out.below hb1
        have c4 : W1.cell? ⟨g, 4, none⟩ = some (.pointer (some ⟨p, 0, none⟩)) := hL1.sr.cells.2.2.2.2.1
        have hgl := hL1.sr.sits.lt
        have HSET : Hid (∀ W, Below W1.heap.size W1 W → Calls Try.prog 20 #[.pointer (some ⟨p, 0, none⟩), .int .i64 k, .agg #[.string (str x.d), .int .i64 0]] W fun e w' => e = .returned (.bool true) ∧ LoopR g p q m nn s S w now W0 b (k + 1) w') := Lib.hid fun W hW =>
          LoopR.set (fun i hi => HS.out i (Nat.le_trans (Nat.le_trans hI.out.many.size hb1.size) (Nat.le_trans hW.size hi))) (hL1.below hW) hlt ⟨x.d, 0⟩ (by rw [← hx, hnow])
        have HLT := Lib.hid hlt
        clear hb1 hs1 hL1 e0 e1 hx hnow hI hlt
        go_wp2_with fail
        rw [← hW1]
        clear hW1 lc0 lc1 hbl
        go_region_with (go_at_call 20; refine (HSET.out _ (by first | exact Below.refl _ _ | exact (Below.refl _ _).drew)).mono ?_; rintro e w4 ⟨rfl, hL4⟩)
        all_goals
          have HL4 := Lib.hid hL4
          clear hL4
          go_wp2_with fail
          refine ⟨⟨k + 1, HLT.out, by go_num, HL4⟩, by simp [intOf]; have := HLT.out; omega⟩
      · obtain rfl : k = W0.length := by omega
        obtain ⟨W', z7, hgl, hfz, hrun, hZ⟩ := HTAIL.out b wr hI.out
        have f3 := hfz 3
        have f5 := hfz 5
        have f6 := hfz 6
        have hx := hI.out.sr.cells
        obtain ⟨-, -, -, y3, -, y5, y6, -, -, -⟩ := hx
        have HZ := Lib.hid hZ
        clear hZ hfz hI
        go_wp2
        go_end0
        exact ⟨rfl, HZ.out⟩
end
end Go.Proofs.Ytbpcbdlmkoajdaa
