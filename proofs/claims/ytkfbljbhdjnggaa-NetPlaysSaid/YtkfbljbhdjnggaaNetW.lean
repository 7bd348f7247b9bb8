/- The document's net (commonsref14.Net) in memory: Take of a packet that is there. -/
import Derived.Test.YtkfbljbhdjnggaaNetV
namespace Go.Proofs.Ytkfbljbhdjnggaa
open Go Go.RowKit NetP
set_option maxRecDepth 100000
set_option maxHeartbeats 1000000
set_option linter.unusedSimpArgs false

theorem rp_info : ∃ i, Try.prog.info? (Try.prog.elem 27) = some i := by
  rw [show Try.prog.elem 27 = 48 by kernel_rfl]
  exact info_of_underlying Try.underlying48
theorem rp_under : Try.prog.underlying 27 = some (.slice (Try.prog.elem 27)) := by kernel_rfl
theorem rp_size : Try.prog.cellsOf (Try.prog.elem 27) = 3 := by kernel_rfl
/-- A copy of what is ahead of k, and behind it what is behind k. -/
theorem rp_cut {W : World} {A : Option Addr} {cap : Nat} {L : List Pk} (hI : Pks W (.slice A L.length cap) L) (k : Nat) (hk : k < L.length) (hn : L.length ≤ 100000) (ty : TypeId) :
    ∃ A1 c1 A2 c2 v1 w1 v2 w2, (∀ W', (Instr.slice 27 (.slice A L.length cap) none (some (.int .i64 (k : Int))) none).run Try.prog W' = .ok (.slice A1 k c1) W') ∧
      (∀ W', (Instr.slice 27 (.slice A L.length cap) (some (.int .i64 ((k : Int) + 1))) none none).run Try.prog W' = .ok (.slice A2 (L.length - (k + 1)) c2) W') ∧
      (Builtin.append_ #[27, 27] ty #[.slice none 0 0, .slice A1 k c1]).run Try.prog W.drew = .ok v1 w1 ∧
      (Builtin.append_ #[27, 27] ty #[v1, .slice A2 (L.length - (k + 1)) c2]).run Try.prog w1 = .ok v2 w2 ∧
      RowAt w2 W.heap.size 48 3 v2 (L.eraseIdx k).length ((L.eraseIdx k).flatMap encK) ∧ Below W.heap.size W w2 ∧ Below W.heap.size W w1 := by
  have hmx : maxLen = 9223372036854775807 := by decide
  obtain ⟨i, hi⟩ := rp_info
  obtain ⟨A1, c1, g1, s1⟩ := SliceAt.high rp_under hi rp_size hI k (by omega)
  obtain ⟨A2, c2, g2, s2⟩ := SliceAt.low rp_under hi rp_size hI (k + 1) (by omega)
  have hb0 : Below W.heap.size W W.drew := (Below.refl _ W).drew
  have hl1 : (L.take k).length = k := by rw [List.length_take]; omega
  have hl2 : (L.drop (k + 1)).length = L.length - (k + 1) := List.length_drop
  have src1 := SliceAt.src (s := 3) (f := encK) (e := 48) Try.underlying27 (fun _ => rfl) (by omega) encK_cell (SliceAt.below s1 hb0)
  obtain ⟨v1, w1, hr1, own1, gr1, -⟩ := append_src (w := W.drew) (tx := 27) elemRp (World.ownsRow_nil W.drew W.drew.heap.size 48 3) src1 ty (by omega) (by omega) (Nat.le_refl _)
  rw [Nat.zero_add, List.nil_append] at own1
  have hb1 : Below W.heap.size W w1 := hb0.trans (((Below.refl _ _).grown gr1 (Nat.le_refl _) (by simp [Value.ownBlock])).mono hb0.size)
  have src2 := SliceAt.src (s := 3) (f := encK) (e := 48) Try.underlying27 (fun _ => rfl) (by omega) encK_cell (SliceAt.below s2 hb1)
  have row1 := (RowAt.ofOwn own1).mono hb0.size
  obtain ⟨v2, w2, hr2, row2, gr2, -⟩ := appendAt_src elemRp row1 src2 ty (by omega) (by omega) hb1.size
  rw [hl1, hl2] at row2
  have he : L.eraseIdx k = L.take k ++ L.drop (k + 1) := List.eraseIdx_eq_take_drop_succ _ _
  refine ⟨A1, c1, A2, c2, v1, w1, v2, w2, g1, fun W' => ?_, hr1, hr2, ?_, hb1.trans ((Below.refl W.heap.size w1).grown gr2 hb1.size (fun q hq => (row1.lt q hq).1)), hb1⟩
  · have := g2 W'
    rwa [show ((k + 1 : Nat) : Int) = (k : Int) + 1 by omega] at this
  · rw [he, List.length_append, hl1, hl2, List.flatMap_append]
    exact row2
theorem rtake_in {r : Nat} {L : List Pk} {C : List (Int × Int)} {S : Nat → Prop} {w : World} (hS : ∀ k, w.heap.size ≤ k → S k) (h : RN r L C S w) (k : Nat) (hL : L.length ≤ 900) (hk : k < L.length) :
    Calls Try.prog 16 #[.pointer (some ⟨r, 0, none⟩), .int .i64 k] w fun e w' => e = .returned (.tuple #[.agg #[.int .i64 L[k].f, .int .i64 L[k].t, .string (str L[k].d)], .bool true]) ∧ RN r (L.eraseIdx k) C S w' ∧ Many S w w' := by
  obtain ⟨W1, hW1⟩ : ∃ W, W = w.alloc (.cells #[.int .i64 0, .int .i64 0, .string ⟨#[]⟩] 48) := ⟨_, rfl⟩
  have hb1 : Below w.heap.size w W1 := hW1 ▸ (Below.refl _ w).alloc (Nat.le_refl _) _
  have hs1 : Sits W1 w.heap.size 48 #[.int .i64 0, .int .i64 0, .string ⟨#[]⟩] := hW1 ▸ Sits.fresh w _ _
  have hz1 : W1.heap.size = w.heap.size + 1 := by rw [hW1, World.size_alloc]
  have h0 : RN r L C (fun q => S q ∧ q ≠ w.heap.size) w := (holdRN r L C).mono ((holdRN r L C).less h) fun q hq => ⟨hq.1, by omega⟩
  have h1 := h0.below hb1
  have hth := rthere_any h1 (k : Int) (by omega)
  rw [decide_eq_true (show 0 ≤ (k : Int) ∧ (k : Int) < (L.length : Int) by omega)] at hth
  have HT := Lib.hid hth
  obtain ⟨u, c, hs, hr, hu, hu2, hc, hc2⟩ := h1
  have hus := row_at hu
  obtain ⟨U, ucap, rfl, -⟩ := hu.form
  obtain ⟨U', ucap', he, -, -, h3⟩ := Pks.read hus
  injection he with he1 _ he2
  subst he1 he2
  obtain ⟨b, o, rfl, hb, x0, x1, x2⟩ := h3 k hk
  obtain ⟨x, hx⟩ : ∃ x, x = L[k] := ⟨_, rfl⟩
  rw [← hx] at x0 x1 x2 ⊢
  have c0 : W1.cell? ⟨r, 0, none⟩ = some (.slice (some ⟨b, o, none⟩) L.length ucap) := hs.cell 0
  have hrl := hs.lt
  obtain ⟨W2, hW2⟩ : ∃ W, W = W1.alloc (.cells #[.int .i64 x.f, .int .i64 x.t, .string (str x.d)] 48) := ⟨_, rfl⟩
  have hb2 : Below W1.heap.size W1 W2 := hW2 ▸ (Below.refl _ W1).alloc (Nat.le_refl _) _
  have hp2 : Sits W2 W1.heap.size 48 #[.int .i64 x.f, .int .i64 x.t, .string (str x.d)] := hW2 ▸ Sits.fresh W1 _ _
  have hs1' := hs1.below' hb2
  obtain ⟨A1, c1, A2, c2, v1, w1, v2, w2, g1, g2, r1, r2, row2, hb4, hb3⟩ := rp_cut (SliceAt.below hus hb2) k hk (by omega) 27
  have hS2 : ∀ q, W2.heap.size ≤ q → S q ∧ q ≠ w.heap.size := fun q hq => ⟨hS q (by have := hb2.size; omega), by have := hb2.size; omega⟩
  obtain ⟨n1, n2⟩ := RN.packets (L' := L.eraseIdx k) (hs.below' hb2) hr (hc.below hb2) hc2 hS2 hb4 row2
  obtain ⟨P2, p2c, rfl, -⟩ := row2.form
  have sr := (hs.below' hb2).below' hb4
  have k0 := sr.cell 0
  have f0 := sr.warm 0
  have d0 := (hb2.cell (p := ⟨r, 0, none⟩) hrl).trans c0
  have d1 := (hb3.cell (p := ⟨r, 0, none⟩) (Nat.lt_of_lt_of_le hrl hb2.size)).trans d0
  have hne : r ≠ w.heap.size := hr.2
  have sp := (hp2.below' hb4).away (p := ⟨r, 0, none⟩) (show W1.heap.size ≠ r by omega) (.slice P2 (L.eraseIdx k).length p2c)
  have sg := (hs1'.below' hb4).away (p := ⟨r, 0, none⟩) (show w.heap.size ≠ r from fun e => hne e.symm) (.slice P2 (L.eraseIdx k).length p2c)
  obtain ⟨W5, hW5⟩ : ∃ W, W = w2.setCell ⟨r, 0, none⟩ (.slice P2 (L.eraseIdx k).length p2c) := ⟨_, rfl⟩
  rw [← hW5] at n1 n2 sp sg
  have p0 := sp.cell 0
  have p1 := sp.cell 1
  have p2 := sp.cell 2
  have q0 := sg.cell 0
  have q1 := sg.cell 1
  have q2 := sg.cell 2
  have t0 := sg.warm 0
  have t1 := sg.warm 1
  have t2 := sg.warm 2
  have hz := ((sg.put 0 (.int .i64 x.f)).put 1 (.int .i64 x.t)).put 2 (.string (str x.d))
  have HZ := Lib.hid (And.intro (hz.cell 0) (And.intro (hz.cell 1) (hz.cell 2)))
  have hng : ¬ (S w.heap.size ∧ w.heap.size ≠ w.heap.size) := fun e => e.2 rfl
  have HNX : Hid (RN r (L.eraseIdx k) C S (((W5.setCell ⟨w.heap.size, 0, none⟩ (.int .i64 x.f)).setCell ⟨w.heap.size, 1, none⟩ (.int .i64 x.t)).setCell ⟨w.heap.size, 2, none⟩ (.string (str x.d))) ∧ Many S w (((W5.setCell ⟨w.heap.size, 0, none⟩ (.int .i64 x.f)).setCell ⟨w.heap.size, 1, none⟩ (.int .i64 x.t)).setCell ⟨w.heap.size, 2, none⟩ (.string (str x.d)))) := Lib.hid
    ⟨(holdRN r (L.eraseIdx k) C).mono (((n1.beside hng 0 _).beside hng 1 _).beside hng 2 _) fun q hq => hq.1,
      (((((Many.of_below S hb1).then hb2).trans (n2.mono fun q _ hq => hq.1)).store (hS _ (Nat.le_refl _)) 0 _).store (hS _ (Nat.le_refl _)) 1 _).store (hS _ (Nat.le_refl _)) 2 _⟩
  have R1 := Lib.hid r1
  have R2 := Lib.hid r2
  have HW5 := Lib.hid hW5
  have HW2 := Lib.hid hW2
  have HG := Lib.hid (And.intro g1 g2)
  have hlI : (L.length : Int) ≤ 900 := by omega
  have hkI : (k : Int) < (L.length : Int) := by omega
  have ew : IntKind.i64.wrap ((k : Int) + 1) = (k : Int) + 1 := IntWalk.i64_in _ (by omega)
  have hrn : r < w2.heap.size ∧ r < W2.heap.size := ⟨sr.lt, (hs.below' hb2).lt⟩
  clear h h0 hth hs hr hu hu2 hc hc2 hus h3 r1 r2 row2 hb2 hb3 hb4 hb1 n1 n2 sr sp sg hz hng hS2 hS hx hs1 hs1' hp2 hW5 hW2 hrl hb hz1 hne
  go_enter Try.func16, Try.ntmps16
  go_wp2_with fail
  rw [← hW1]
  clear hW1
  refine HT.out.mono ?_
  rintro e w' ⟨rfl, rfl⟩
  go_wp2_with fail
  rw [← HW2.out]
  obtain ⟨g1, g2⟩ := HG.out
  go_region_law (first
    | (refine step_append_eq rfl (.const (.slice none 0 0)) (.tmp 25) 27 27 rfl _ _ _ (by simp [Act.eval, Act.put]) (by simp [Act.eval, Act.put]) R1.out ?_)
    | (refine step_append_eq rfl (.tmp 26) (.tmp 33) 27 27 rfl _ _ _ (by simp [Act.eval, Act.put]) (by simp [Act.eval, Act.put]) R2.out ?_))
  all_goals rw [← HW5.out]
  all_goals go_wp2
  all_goals refine bodyPost_ret (v := .tuple #[.agg #[.int .i64 x.f, .int .i64 x.t, .string (str x.d)], .bool true]) ?_ rfl ⟨rfl, HNX.out⟩
  all_goals simp [results, Try.results16, go_sem, HZ.out]
end Go.Proofs.Ytkfbljbhdjnggaa
