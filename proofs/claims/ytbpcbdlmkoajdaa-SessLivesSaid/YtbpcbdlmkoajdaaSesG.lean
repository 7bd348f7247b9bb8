/- Package sess: Out. -/
import Derived.Test.YtbpcbdlmkoajdaaSesF
import Derived.Deep.Cut
import Derived.Test.YtbpcbdlmkoajdaaChm
namespace Go.Proofs.Ytbpcbdlmkoajdaa
open Go Go.RowKit Go.Maps SesP
set_option maxRecDepth 100000
set_option maxHeartbeats 4000000
set_option linter.unusedSimpArgs false
/-- How far the frame of a message is laid. -/
def stG (W : World) (fb : Nat) (v : Int) (d : List UInt8) : Nat → World
  | 0 => W.drew
  | 1 => W.drew.setCell ⟨fb, 4, none⟩ (.int .i64 v)
  | 2 => (W.drew.setCell ⟨fb, 4, none⟩ (.int .i64 v)).setCell ⟨fb, 6, none⟩ (.string (str d))
  | _ => ((W.drew.setCell ⟨fb, 4, none⟩ (.int .i64 v)).setCell ⟨fb, 6, none⟩ (.string (str d))).setCell ⟨fb, 7, none⟩ (.bool true)
theorem stG_other (W : World) (fb : Nat) (v : Int) (d : List UInt8) (m k : Nat) (h : k ≠ fb) : (stG W fb v d m).heap[k]? = W.heap[k]? := by
  match m with
  | 0 => rfl
  | 1 => exact Below.heap_setCell _ _ _ _ h
  | 2 => exact (Below.heap_setCell _ _ _ _ h).trans (Below.heap_setCell _ _ _ _ h)
  | _ + 3 => exact ((Below.heap_setCell _ _ _ _ h).trans (Below.heap_setCell _ _ _ _ h)).trans (Below.heap_setCell _ _ _ _ h)
theorem stG_sits {W : World} {fb : Nat} {a0 a1 a2 a3 a4 a5 a6 a7 : Value} (h : Sits W fb 34 #[a0, a1, a2, a3, a4, a5, a6, a7]) (v : Int) (d : List UInt8) :
    Sits (stG W fb v d 0) fb 34 #[a0, a1, a2, a3, a4, a5, a6, a7] ∧ Sits (stG W fb v d 1) fb 34 #[a0, a1, a2, a3, .int .i64 v, a5, a6, a7] ∧ Sits (stG W fb v d 2) fb 34 #[a0, a1, a2, a3, .int .i64 v, a5, .string (str d), a7] ∧ Sits (stG W fb v d 3) fb 34 #[a0, a1, a2, a3, .int .i64 v, a5, .string (str d), .bool true] :=
  ⟨h.drew, h.drew.put 4 _, (h.drew.put 4 _).put 6 _, ((h.drew.put 4 _).put 6 _).put 7 _⟩
section
variable {g p q m nn c : Nat} {s : Ses} {S : Nat → Prop} {w : World}
/-- The frames of the first k. -/
def outK (s : Ses) (k : Nat) : List Frm := outL s (s.k + 1) (s.W.take k)
theorem outK_step (s : Ses) (k : Nat) (h : k < s.W.length) : outK s (k + 1) = outK s k ++ (if s.W[k].l = 0 then [msgF s (s.k + 1 + k) s.W[k].d] else []) := by
  unfold outK
  rw [List.take_succ_eq_append_getElem h, outL_append, List.length_take, Nat.min_eq_left (by omega)]
theorem outK_len (s : Ses) (k : Nat) : (outK s k).length ≤ s.W.length := by
  have := outL_len s (s.W.take k) (s.k + 1)
  rw [List.length_take] at this
  unfold outK
  omega
theorem LoopQ.away {f : Msg → Msg} {l : List Msg} {b k : Nat} {v : Value} {L : List Frm} {W : World} (h : LoopQ g p q m nn s S w f l b k v L W) {i : Nat} (hi : w.heap.size ≤ i) (hSi : S i) (hb : b ≠ i) (hv : ∀ j, v.ownBlock = some j → j ≠ i) (j : Nat) (u : Value) :
    LoopQ g p q m nn s S w f l b k v L (W.setCell ⟨i, j, none⟩ u) :=
  ⟨h.sr.keep fun a ha _ => Below.heap_setCell _ _ _ _ (show a ≠ i by have := ha.2; omega), h.list.away (p := ⟨i, j, none⟩) hb u, h.low, h.row.keep fun a ha => Below.heap_setCell _ _ _ _ (show a ≠ i from hv a ha), h.many.store hSi j u⟩
theorem LoopQ.drew {f : Msg → Msg} {l : List Msg} {b k : Nat} {v : Value} {L : List Frm} {W : World} (h : LoopQ g p q m nn s S w f l b k v L W) : LoopQ g p q m nn s S w f l b k v L W.drew := h.below (Below.refl _ _).drew
theorem alloc_setRow (w : World) (z cs : Array Value) (t : TypeId) : (w.alloc (.cells z t)).setRow w.heap.size cs = w.alloc (.cells cs t) := by
  have h : ((w.alloc (.cells z t)).setRow w.heap.size cs).heap = (w.alloc (.cells cs t)).heap := by
    apply Array.ext_getElem?
    intro i
    by_cases hi : i = w.heap.size
    · subst hi
      rw [setRow_heap _ _ z cs t (0, 0) (Sits.fresh w t z)]
      exact (Sits.fresh w t cs).symm
    · rw [setRow_other _ _ _ _ hi]
      simp only [World.alloc, Array.getElem?_push]
      simp [hi]
  cases w
  simp only [World.alloc, World.setRow] at h ⊢
  simp only [World.mk.injEq, and_true]
  exact h
theorem wrapI_small {x : Int} (h0 : 0 ≤ x) (h1 : x ≤ 100000000000) : IntKind.i64.wrap x = x := by rw [IntKind.wrap_i64]; omega
theorem wrap_small {x : Int} (h0 : 0 ≤ x) (h1 : x ≤ 100000000000) : wrap64 x = x := by unfold wrap64; omega
theorem sout_any (hS : ∀ k, w.heap.size ≤ k → S k) (h : SN g c s S w) :
    Calls Try.prog 11 #[.pointer (some ⟨g, 0, none⟩)] w fun e w' => (∃ v, e = .returned v ∧ FRow w' w.heap.size v (outF s)) ∧ SN g c (outS s) S w' ∧ Many S w w' := by
  obtain ⟨p, q, m, nn, h, hnn, hN⟩ := h
  have HR := Lib.hid (sready_yes h)
  have hl64 := h.len
  obtain ⟨-, -, -, -, c4, -, -, -, -, hgl⟩ := h.cells
  have HL := Lib.hid (LoopQ.start (w := w) (f := sent) (S := S) (by have := h.less; exact this) (Many.refl S w))
  have hk9 : (s.k : Int) ≤ 10000000000 := by have := hN.k; have := hN.c; omega
  have HS := Lib.hid hS
  have HN := Lib.hid (And.intro hnn hN)
  -- the end: what is owed
  have HFR : Hid (∀ b v L W, LoopQ g p q m nn s S w sent s.W b s.W.length v L W → Calls Try.prog 26 #[.pointer (some ⟨g, 0, none⟩)] W fun e w' => e = .returned (aggF (bareF s)) ∧ LoopQ g p q m nn s S w sent s.W b s.W.length v L w') := Lib.hid fun b v L W hW =>
    (sframe_any hW.sr).mono fun e w' ⟨he, hb⟩ => ⟨he, hW.below hb⟩
  have HFK : Hid (∀ b k v L W, LoopQ g p q m nn s S w sent s.W b k v L W → Calls Try.prog 26 #[.pointer (some ⟨g, 0, none⟩)] W fun e w' => e = .returned (aggF (bareF s)) ∧ LoopQ g p q m nn s S w sent s.W b k v L w' ∧ Below W.heap.size W w') := Lib.hid fun b k v L W hW =>
    (sframe_any hW.sr).mono fun e w' ⟨he, hb⟩ => ⟨he, hW.below hb, hb⟩
  have HEND : Hid (∀ b v L W, LoopQ g p q m nn s S w sent s.W b s.W.length v L W → W.cell? ⟨g, 8, none⟩ = some (.bool s.o) ∧ g < W.heap.size ∧ W.frozen? ⟨g, 8, none⟩ = false ∧ FRow (W.setCell ⟨g, 8, none⟩ (.bool false)) w.heap.size v L ∧ SN g c (outS s) S (W.setCell ⟨g, 8, none⟩ (.bool false)) ∧ Many S w (W.setCell ⟨g, 8, none⟩ (.bool false))) := Lib.hid fun b v L W hW => by
    have h1 := hW.sr
    rw [turnK_all] at h1
    have h2 := h1.cell 8 (.bool false) (s' := outS s) rfl rfl rfl
    have h3 := h1.g.2
    refine ⟨h1.cells.2.2.2.2.2.2.2.2.1, h1.sits.lt, h1.sits.warm 8, ?_, ⟨p, q, m, nn, h2.1.mono fun k hk => hk.1, HN.out.1, ?_⟩, hW.many.trans (h2.2.mono fun k _ hk => hk.1)⟩
    · exact hW.row.keep fun k hk => Below.heap_setCell _ _ _ _ (show k ≠ g by have := (hW.row.lt k hk).1; omega)
    · refine ⟨HN.out.2.A, fun x hx => ?_, HN.out.2.k, HN.out.2.n, HN.out.2.c⟩
      obtain ⟨y, hy, rfl⟩ := List.mem_map.1 hx
      have := HN.out.2.l y hy
      unfold sent
      split
      · exact Nat.le_refl _
      · exact this
  have hNl := hN.l
  have HNL := Lib.hid hNl
  have HWX : Hid (IntKind.i64.wrap ((s.k : Int) + 1) = (s.k : Int) + 1) := Lib.hid (wrapI_small (by omega) (by omega))
  have HWY : Hid (∀ k : Nat, k ≤ 64 → IntKind.i64.wrap ((s.k : Int) + 1 + (k : Int)) = (s.k : Int) + 1 + (k : Int)) := Lib.hid fun k hk => wrapI_small (by omega) (by omega)
  have HOK : Hid (outK s s.W.length = outL s (s.k + 1) s.W) := Lib.hid (by unfold outK; rw [List.take_length])
  have HOL : Hid (∀ k, (outK s k).length ≤ 64) := Lib.hid fun k => Nat.le_trans (outK_len s k) hl64
  clear h hnn hN hS hNl
  go_enter Try.func11, Try.ntmps11
  go_wp2_with fail
  refine HR.out.mono ?_
  rintro e w' ⟨rfl, rfl⟩
  go_wp2_with fail
  refine HL.out.mono ?_
  rintro e w1 ⟨b, rfl, hL1⟩
  have HL1 := Lib.hid hL1
  have hbl := hL1.list.lt
  clear hL1 HL c4 hgl HR
  go_wp2_with fail
  go_loopw [3, 16] (fun v iv wr => ∃ k : Nat, k ≤ s.W.length ∧ iv = .int .i64 k ∧ (∃ A cap, v = .slice A (outK s k).length cap) ∧ Hid (LoopQ g p q m nn s S w sent s.W b k v (outK s k) wr)) (fun _ iv _ => s.W.length - (intOf iv).toNat)
  case atStart => exact ⟨0, Nat.zero_le _, rfl, ⟨none, 0, rfl⟩, HL1⟩
  case round =>
    obtain ⟨k, hk, rfl, ⟨A, cap, rfl⟩, hI⟩ := hrel
    by_cases hlt : k < s.W.length
    · have hltI : (k : Int) < (s.W.length : Int) := by omega
      have hkI : (k : Int) ≤ 64 := by omega
      have HK64 : Hid (k ≤ 64) := Lib.hid (by omega)
      obtain ⟨e0, e1⟩ := cellsM_two s.W k hlt
      have lc0 : wr.cell? ⟨b, k * 2, none⟩ = some (.string (str s.W[k].d)) := by rw [hI.out.list.cell]; simpa using e0
      have lc1 : wr.cell? ⟨b, k * 2 + 1, none⟩ = some (.int .i64 (s.W[k].l : Int)) := by rw [hI.out.list.cell]; simpa using e1
      have hbl := hI.out.list.lt
      have hstep := outK_step s k hlt
      have hxl := HNL.out s.W[k] (List.getElem_mem hlt)
      have hsent : sent s.W[k] = if s.W[k].l = 0 then ⟨s.W[k].d, 4⟩ else s.W[k] := rfl
      have HSET : Hid (∀ x v L W, x = sent s.W[k] → LoopQ g p q m nn s S w sent s.W b k v L W → Calls Try.prog 20 #[.pointer (some ⟨p, 0, none⟩), .int .i64 k, .agg #[.string (str x.d), .int .i64 (x.l : Int)]] W fun e w' => e = .returned (.bool true) ∧ LoopQ g p q m nn s S w sent s.W b (k + 1) v L w') := Lib.hid fun x v L W hx hW => hW.set hlt x hx
      have HSK : Hid (∀ v L W, s.W[k].l ≠ 0 → LoopQ g p q m nn s S w sent s.W b k v L W → LoopQ g p q m nn s S w sent s.W b (k + 1) v L W) := Lib.hid fun v L W hx hW => by
        have h2 := turnK_step sent s.W k hlt
        have h3 : (turnK sent s.W k)[k]? = some s.W[k] := by
          unfold turnK
          rw [List.getElem?_append_right (by rw [List.length_map, List.length_take]; omega), List.length_map, List.length_take, Nat.min_eq_left (by omega), Nat.sub_self, List.getElem?_drop, Nat.add_zero, List.getElem?_eq_getElem hlt]
        have h4 : sent s.W[k] = s.W[k] := by rw [hsent, if_neg hx]
        have h5 : turnK sent s.W (k + 1) = turnK sent s.W k := by
          rw [← h2, h4]
          apply List.ext_getElem?
          intro i
          rw [List.getElem?_set]
          split
          · rename_i e
            subst e
            rw [h3, if_pos (List.getElem?_eq_some_iff.1 h3).1]
          · rfl
        exact ⟨by rw [h5]; exact hW.sr, hW.list, hW.low, hW.row, hW.many⟩
      obtain ⟨x, hx⟩ : ∃ x, x = s.W[k] := ⟨_, rfl⟩
      rw [← hx] at lc0 lc1 hstep hxl hsent HSET HSK
      have HLT := Lib.hid hlt
      obtain ⟨W1, hW1⟩ : ∃ W, W = wr.alloc (.cells #[.string (str x.d), .int .i64 (x.l : Int)] 46) := ⟨_, rfl⟩
      have hb1 : Below wr.heap.size wr W1 := hW1 ▸ (Below.refl _ wr).alloc (Nat.le_refl _) _
      have hs1 : Sits W1 wr.heap.size 46 #[.string (str x.d), .int .i64 (x.l : Int)] := hW1 ▸ Sits.fresh wr _ _
      have m1 : W1.cell? ⟨wr.heap.size, 1, none⟩ = some (.int .i64 (x.l : Int)) := hs1.cell 1
      have hml := hs1.lt
      have hL1 := hI.out.below hb1
      have HWR := Lib.hid hI.out.many.size
      have HBL := Lib.hid hI.out.list.lt
      by_cases hx0 : x.l = 0
      rotate_left
      · have d0 : decide ((0 : Int) < (x.l : Int)) = true := decide_eq_true (by omega)
        have d0' : decide (0 < x.l) = true := decide_eq_true (by omega)
        rw [if_neg hx0, List.append_nil] at hstep
        have HNX : Hid (LoopQ g p q m nn s S w sent s.W b (k + 1) (.slice A (outK s k).length cap) (outK s (k + 1)) W1) := Lib.hid (by rw [hstep]; exact HSK.out _ _ _ hx0 hL1)
        have HST := Lib.hid hstep
        clear hb1 hs1 hL1 e0 e1 hsent hI hlt HSET HSK hstep hxl hx hx0
        go_wp2_with fail
        try rw [← hW1]
        refine ⟨⟨k + 1, HLT.out, by go_num, ⟨A, cap, by rw [HST.out]⟩, HNX⟩, by simp [intOf]; have := HLT.out; omega⟩
      · have d0 : decide ((0 : Int) < (x.l : Int)) = false := decide_eq_false (by omega)
        have d0' : decide (0 < x.l) = false := decide_eq_false (by omega)
        rw [if_pos hx0] at hstep hsent
        have HF1 := Lib.hid (HFK.out _ _ _ _ _ hL1)
        have HSM := Lib.hid hs1
        have HST := Lib.hid hstep
        have HSE := Lib.hid hsent
        clear hb1 hL1 e0 e1 hsent hI hlt HSK hstep hxl hx hx0 HFK HFR HEND
        go_wp2_with fail
        rw [← hW1]
        clear hW1 lc0 lc1 hbl m1 hs1 d0 d0'
        refine HF1.out.mono ?_
        rintro e w2 ⟨rfl, hL2, hb2⟩
        unfold aggF bareF
        simp only
        have hS2 := HSM.out.below' hb2
        obtain ⟨fb, hfb⟩ : ∃ fb, w2.heap.size = fb := ⟨_, rfl⟩
        obtain ⟨W3, hW3⟩ : ∃ W, W = w2.alloc (.cells #[.int .i64 s.p, .int .i64 s.q, .int .i64 s.m, .int .i64 s.y, .int .i64 0, .int .i64 (s.n : Int), .string (str []), .bool false] 34) := ⟨_, rfl⟩
        have hb3 : Below w2.heap.size w2 W3 := hW3 ▸ (Below.refl _ _).alloc (Nat.le_refl _) _
        have hS3 := hS2.below' hb3
        have hT3 : Sits W3 fb 34 #[.int .i64 s.p, .int .i64 s.q, .int .i64 s.m, .int .i64 s.y, .int .i64 0, .int .i64 (s.n : Int), .string (str []), .bool false] := by rw [hW3, ← hfb]; exact Sits.fresh w2 _ _
        have hL3 := hL2.below hb3
        have hmf : wr.heap.size < fb := by rw [← hfb]; exact hS2.lt
        obtain ⟨-, -, -, -, c4, c5, -, -, -, hgl⟩ := hL3.sr.cells
        have x0 : W3.cell? ⟨wr.heap.size, 0, none⟩ = some (.string (str x.d)) := hS3.cell 0
        have hml3 := hS3.lt
        have hfl := hT3.lt
        have y4 : W3.cell? ⟨fb, 4, none⟩ = some (.int .i64 0) := hT3.cell 4
        have y6 : W3.cell? ⟨fb, 6, none⟩ = some (.string (str [])) := hT3.cell 6
        have y7 : W3.cell? ⟨fb, 7, none⟩ = some (.bool false) := hT3.cell 7
        have f4 := hT3.warm 4
        have f6 := hT3.warm 6
        have f7 := hT3.warm 7
        have HSG := Lib.hid (stG_sits hT3 ((s.k : Int) + 1 + (k : Int)) x.d)
        have HCE : Hid (∀ m, (stG W3 fb ((s.k : Int) + 1 + (k : Int)) x.d m).cell? ⟨g, 5, none⟩ = some (.int .i64 (s.k : Int)) ∧ (stG W3 fb ((s.k : Int) + 1 + (k : Int)) x.d m).cell? ⟨wr.heap.size, 0, none⟩ = some (.string (str x.d)) ∧ g < (stG W3 fb ((s.k : Int) + 1 + (k : Int)) x.d m).heap.size ∧ wr.heap.size < (stG W3 fb ((s.k : Int) + 1 + (k : Int)) x.d m).heap.size) := Lib.hid fun m => by
          have e1 := (stG_other W3 fb ((s.k : Int) + 1 + (k : Int)) x.d m g (Nat.ne_of_lt (Nat.lt_of_lt_of_le hL3.sr.g.2 (by rw [← hfb]; exact hL2.many.size)))).trans hL3.sr.sits
          have e2 := (stG_other W3 fb ((s.k : Int) + 1 + (k : Int)) x.d m wr.heap.size (Nat.ne_of_lt hmf)).trans hS3
          exact ⟨Sits.cell (i := 5) e1, Sits.cell (i := 0) e2, Sits.lt e1, Sits.lt e2⟩
        obtain ⟨W4, hW4⟩ : ∃ W, W = ((W3.drew.setCell ⟨fb, 4, none⟩ (.int .i64 ((s.k : Int) + 1 + (k : Int)))).setCell ⟨fb, 6, none⟩ (.string (str x.d))).setCell ⟨fb, 7, none⟩ (.bool true) := ⟨_, rfl⟩
        have hwf : w.heap.size ≤ fb := by rw [← hfb]; exact hL2.many.size
        have hSf := HS.out fb hwf
        have hbf : b ≠ fb := by rw [← hfb]; have := hL2.list.lt; omega
        have hvf : ∀ j, (Value.slice A (outK s k).length cap).ownBlock = some j → j ≠ fb := fun j hj => by rw [← hfb]; have := (hL2.row.lt j hj).2; omega
        have hL4 : LoopQ g p q m nn s S w sent s.W b k (.slice A (outK s k).length cap) (outK s k) W4 := by
          rw [hW4]
          exact ((hL3.drew.away hwf hSf hbf hvf 4 _).away hwf hSf hbf hvf 6 _).away hwf hSf hbf hvf 7 _
        have hT4 : Sits W4 fb 34 #[.int .i64 s.p, .int .i64 s.q, .int .i64 s.m, .int .i64 s.y, .int .i64 ((s.k : Int) + 1 + (k : Int)), .int .i64 (s.n : Int), .string (str x.d), .bool true] := by
          rw [hW4]
          exact ((hT3.drew.put 4 _).put 6 _).put 7 _
        have hS4 : Sits W4 wr.heap.size 46 #[.string (str x.d), .int .i64 (x.l : Int)] := by
          rw [hW4]
          exact ((hS3.drew.away (p := ⟨fb, 4, none⟩) (Nat.ne_of_lt hmf) _).away (p := ⟨fb, 6, none⟩) (Nat.ne_of_lt hmf) _).away (p := ⟨fb, 7, none⟩) (Nat.ne_of_lt hmf) _
        obtain ⟨A5, c5', W5, hrun, hL5, hM5⟩ := hL4.push HS.out (msgF s (s.k + 1 + k) x.d) (Nat.le_trans (HOL.out k) (by decide)) 26
        have hS5 : Sits W5 wr.heap.size 46 #[.string (str x.d), .int .i64 (x.l : Int)] := (hM5.block wr.heap.size hS4.lt fun e => by
          obtain ⟨cur, hc⟩ := hL4.row.sits _ e
          exact absurd rfl (hS4.apart hc (by decide))).trans hS4
        have hmw : w.heap.size ≤ wr.heap.size := HWR.out
        have hbm : b ≠ wr.heap.size := Nat.ne_of_lt HBL.out
        have hL6 := hL5.away hmw (HS.out _ hmw) hbm (fun j hj e => by
          subst e
          obtain ⟨cur, hc⟩ := hL5.row.sits _ hj
          exact absurd rfl (hS5.apart hc (by decide))) 1 (.int .i64 4)
        have hS6 := hS5.put 1 (.int .i64 4)
        rw [← HST.out] at hL6
        have HLN := Lib.hid (show (outK s (k + 1)).length = (outK s k).length + 1 by rw [HST.out, List.length_append]; rfl)
        have HRUN := Lib.hid hrun
        have H45 := Lib.hid (And.intro hT4 (And.intro hS5 (And.intro hL6 hS6)))
        have HW4 := Lib.hid hW4
        have hwx := HWX.out
        have hwy := HWY.out k HK64.out
        have hg3 : (w2.alloc (.cells #[.int .i64 0, .int .i64 0, .int .i64 0, .int .i64 0, .int .i64 0, .int .i64 0, .string ⟨#[]⟩, .bool false] 34)).heap[w2.heap.size]? = some (.cells #[.int .i64 0, .int .i64 0, .int .i64 0, .int .i64 0, .int .i64 0, .int .i64 0, .string ⟨#[]⟩, .bool false] 34 (0, 0)) := Sits.fresh w2 _ _
        have HW3 := Lib.hid hW3
        have HFB := Lib.hid hfb
        clear hL2 hb2 hS2 hb3 hS3 hT3 hL3 hW3 HF1 HSM hfb hW4 hwf hSf hbf hvf hL4 hT4 hS4 hrun hL5 hM5 hS5 hmw hbm hL6 hS6 hmf
        go_wp2_with ((with_reducible refine at_list ?_); refine wpList_store_row rfl 34 (.tmp 6) (.tmp 25) rfl w2.heap.size _ rfl rfl _ _ hg3 (by kernel_rfl) rfl rfl ?_)
        rw [← HW3.out, HFB.out]
        clear HW3 HFB hg3
        clear x0 y4 y6 y7 f4 f6 f7 c4 c5 hgl hml3 hfl
        refine wp_region_exV (by kernel_rfl) (ClsN [10, 12, 14] (fun m W => W = stG W3 fb ((s.k : Int) + 1 + (k : Int)) x.d m))
          [[(0, none)], [(26, some 0)], [(27, some 1)], [(28, some 2)], [(29, some 3)], [(4, none)], [(30, some 4), (31, some 5)], [(5, none)], [(33, some 7)], [(6, none)], [(32, some 6), (35, some 9)], [(6, none)], [(34, some 8), (36, some 11)], [(6, none)], [(37, some 13)]]
          [none, none, none, none, none, none, none, none, none, none, none, none, none, none, none, none, none, none, none, none, none, none, none, none, none, none, some 0, some 1, some 2, some 3, some 4, some 5, some 6, some 7, some 8, some 9, some 11, some 13, none, none, none, none, none, none, none, none, none, none, none, none, none, none, none, none, none, none, none, none, none, none, none, none, none, none, none, none, none, none, none] (by kernel_rfl) (by kernel_rfl) (ClsN.start rfl) ?_
        iterate 10
          refine exV_pure (c := ?_) (fun _ _ _ h => h.pure (by decide)) ?_ ?_
          rotate_left
          · intro a' d' W hR hF
            simp only [FactsV, List.nil_append, List.cons_append, List.getD_cons_zero, List.getD_cons_succ, exists_eq_left, and_true, true_and, List.getElem?_toArray, List.getElem?_cons_zero, List.getElem?_cons_succ] at hF
            obtain ⟨c5, x0, hgl, hml3⟩ := hR.all (C := fun W => W.cell? ⟨g, 5, none⟩ = some (.int .i64 (s.k : Int)) ∧ W.cell? ⟨wr.heap.size, 0, none⟩ = some (.string (str x.d)) ∧ g < W.heap.size ∧ wr.heap.size < W.heap.size) (fun m W h => h ▸ HCE.out m)
            refine ⟨?_, ?_⟩
            · simp [Region.wanted, yielded, hF]
            · go_simp
              with_reducible rfl
        refine exV_storeA (fun a' d' W hd hA hR hF => ?_) ?_
        · skip
          simp only [FactsV, List.nil_append, List.cons_append, List.getD_cons_zero, List.getD_cons_succ, exists_eq_left, and_true, true_and, List.getElem?_toArray, List.getElem?_cons_zero, List.getElem?_cons_succ] at hF
          have h0 := hR.here (t := 0) rfl hd (fun _ _ h => absurd h (by omega))
          subst h0
          have y4 : (stG W3 fb ((s.k : Int) + 1 + (k : Int)) x.d 0).cell? ⟨fb, 4, none⟩ = some (.int .i64 0) := HSG.out.1.cell 4
          have f4 := HSG.out.1.warm 4
          have hfl := HSG.out.1.lt
          exact ⟨by simp [Region.wanted, yielded], _, by go_simp <;> rfl, hR.step (t := 0) (by decide) rfl hd (fun _ _ h => absurd h (by omega)) rfl⟩
        iterate 1
          refine exV_pure (c := ?_) (fun _ _ _ h => h.pure (by decide)) ?_ ?_
          rotate_left
          · intro a' d' W hR hF
            simp only [FactsV, List.nil_append, List.cons_append, List.getD_cons_zero, List.getD_cons_succ, exists_eq_left, and_true, true_and, List.getElem?_toArray, List.getElem?_cons_zero, List.getElem?_cons_succ] at hF
            refine ⟨?_, ?_⟩
            · simp [Region.wanted, yielded, hF]
            · go_simp
              with_reducible rfl
        refine exV_storeA (fun a' d' W hd hA hR hF => ?_) ?_
        · skip
          simp only [FactsV, List.nil_append, List.cons_append, List.getD_cons_zero, List.getD_cons_succ, exists_eq_left, and_true, true_and, List.getElem?_toArray, List.getElem?_cons_zero, List.getElem?_cons_succ] at hF
          have hp : ∀ j, ([10, 12, 14] : List Nat)[1 - 1]? = some j → 0 < 1 → (d' j).isSome = true := fun j hj _ => by cases hj; exact hA ⟨10, .chain⟩ (by simp) (by decide)
          have h0 := hR.here (t := 1) rfl hd hp
          subst h0
          have y6 : (stG W3 fb ((s.k : Int) + 1 + (k : Int)) x.d 1).cell? ⟨fb, 6, none⟩ = some (.string (str [])) := HSG.out.2.1.cell 6
          have f6 := HSG.out.2.1.warm 6
          have hfl := HSG.out.2.1.lt
          exact ⟨by simp [Region.wanted, yielded], _, by go_simp <;> rfl, hR.step (t := 1) (by decide) rfl hd hp rfl⟩
        iterate 1
          refine exV_pure (c := ?_) (fun _ _ _ h => h.pure (by decide)) ?_ ?_
          rotate_left
          · intro a' d' W hR hF
            simp only [FactsV, List.nil_append, List.cons_append, List.getD_cons_zero, List.getD_cons_succ, exists_eq_left, and_true, true_and, List.getElem?_toArray, List.getElem?_cons_zero, List.getElem?_cons_succ] at hF
            refine ⟨?_, ?_⟩
            · simp [Region.wanted, yielded, hF]
            · go_simp
              with_reducible rfl
        refine exV_storeA (fun a' d' W hd hA hR hF => ?_) ?_
        · skip
          simp only [FactsV, List.nil_append, List.cons_append, List.getD_cons_zero, List.getD_cons_succ, exists_eq_left, and_true, true_and, List.getElem?_toArray, List.getElem?_cons_zero, List.getElem?_cons_succ] at hF
          have hp : ∀ j, ([10, 12, 14] : List Nat)[2 - 1]? = some j → 0 < 2 → (d' j).isSome = true := fun j hj _ => by cases hj; exact hA ⟨12, .chain⟩ (by simp) (by decide)
          have h0 := hR.here (t := 2) rfl hd hp
          subst h0
          have y7 : (stG W3 fb ((s.k : Int) + 1 + (k : Int)) x.d 2).cell? ⟨fb, 7, none⟩ = some (.bool false) := HSG.out.2.2.1.cell 7
          have f7 := HSG.out.2.2.1.warm 7
          have hfl := HSG.out.2.2.1.lt
          exact ⟨by simp [Region.wanted, yielded], _, by go_simp <;> rfl, hR.step (t := 2) (by decide) rfl hd hp rfl⟩
        show ∀ d W, _ → _ → _
        intro d w9 hA2 hR2
        simp only [FinV, List.nil_append, List.cons_append, List.getD_cons_zero, List.getD_cons_succ, forall_eq, forall_const, true_implies, forall_exists_index, and_imp, Nat.reduceAdd, Array.getD_eq_getD_getElem?, List.getElem?_toArray, List.getElem?_cons_zero, List.getElem?_cons_succ, Option.getD_some]
        have h9 : w9 = W4 := (hR2.done (t := 2) (k := 14) rfl rfl (hA2 14 (by decide))).trans HW4.out.symm
        subst h9
        clear hR2 hA2
        intros
        clear HW4 HSG HCE hwx hwy
        have g0 : w9.cell? ⟨fb, 0, none⟩ = some (.int .i64 s.p) := H45.out.1.cell 0
        have g1 : w9.cell? ⟨fb, 1, none⟩ = some (.int .i64 s.q) := H45.out.1.cell 1
        have g2 : w9.cell? ⟨fb, 2, none⟩ = some (.int .i64 s.m) := H45.out.1.cell 2
        have g3 : w9.cell? ⟨fb, 3, none⟩ = some (.int .i64 s.y) := H45.out.1.cell 3
        have g4 : w9.cell? ⟨fb, 4, none⟩ = some (.int .i64 ((s.k : Int) + 1 + (k : Int))) := H45.out.1.cell 4
        have g5 : w9.cell? ⟨fb, 5, none⟩ = some (.int .i64 (s.n : Int)) := H45.out.1.cell 5
        have g6 : w9.cell? ⟨fb, 6, none⟩ = some (.string (str x.d)) := H45.out.1.cell 6
        have g7 : w9.cell? ⟨fb, 7, none⟩ = some (.bool true) := H45.out.1.cell 7
        have m1 : W5.cell? ⟨wr.heap.size, 1, none⟩ = some (.int .i64 (x.l : Int)) := H45.out.2.1.cell 1
        have n1 := H45.out.2.1.warm 1
        have hml5 := H45.out.2.1.lt
        go_upto_region 11 with (at_builtin; refine wpList_append_eq rfl (.tmp 38) (.tmp 40) 26 26 rfl _ _ _ rfl rfl HRUN.out ?_)
        clear g0 g1 g2 g3 g4 g5 g6 g7
        obtain ⟨W6, hW6⟩ : ∃ W, W = W5.setCell ⟨wr.heap.size, 1, none⟩ (.int .i64 4) := ⟨_, rfl⟩
        have h6 := H45.out.2.2
        rw [← hW6] at h6
        have HL6 := Lib.hid h6.1
        have u0 : W6.cell? ⟨wr.heap.size, 0, none⟩ = some (.string (str x.d)) := h6.2.cell 0
        have u1 : W6.cell? ⟨wr.heap.size, 1, none⟩ = some (.int .i64 4) := h6.2.cell 1
        have hml6 := h6.2.lt
        obtain ⟨-, -, -, -, c4, -, -, -, -, hgl⟩ := h6.1.sr.cells
        have HSS : Hid (∀ W, Below W6.heap.size W6 W → Calls Try.prog 20 #[.pointer (some ⟨p, 0, none⟩), .int .i64 k, .agg #[.string (str x.d), .int .i64 4]] W fun e w' => e = .returned (.bool true) ∧ LoopQ g p q m nn s S w sent s.W b (k + 1) (.slice A5 ((outK s k).length + 1) c5') (outK s (k + 1)) w') := Lib.hid fun W hW => HSET.out ⟨x.d, 4⟩ _ _ W HSE.out.symm (h6.1.below hW)
        clear h6 H45 HSET HRUN HSE
        go_wp2_with fail
        rw [← hW6]
        clear hW6 m1 n1 hml5
        go_region_with (go_at_call 20; refine (HSS.out _ (by first | exact Below.refl _ _ | exact (Below.refl _ _).drew)).mono ?_; rintro e w7 ⟨rfl, hL7⟩)
        all_goals
          have HL7 := Lib.hid hL7
          clear hL7
          go_wp2_with fail
          refine ⟨⟨k + 1, HLT.out, by go_num, ⟨A5, c5', by rw [HLN.out]⟩, HL7⟩, by simp [intOf]; have := HLT.out; omega⟩
    · obtain rfl : k = s.W.length := by omega
      have hI2 := hI.out
      have hO : outF s = if s.o = true ∧ outK s s.W.length = [] then [bareF s] else outK s s.W.length := by unfold outF; rw [HOK.out]
      obtain ⟨K, hK⟩ : ∃ K, K = outK s s.W.length := ⟨_, rfl⟩
      rw [← hK] at hI2 hO ⊢
      have HO := Lib.hid hO
      obtain ⟨e8, -, -, -⟩ := HEND.out _ _ _ _ hI2
      have hgl := hI2.sr.sits.lt
      have H2 := Lib.hid hI2
      clear hI hI2 hO hK
      by_cases ho : s.o = true ∧ K = []
      · obtain ⟨ho, rfl⟩ := ho
        have hO1 : outF s = [bareF s] := by rw [HO.out, if_pos ⟨ho, rfl⟩]
        rw [ho] at e8
        have HO1 := Lib.hid hO1
        have hz : (([] : List Frm).length : Int) = 0 := rfl
        have HF2 := Lib.hid (HFR.out _ _ _ _ H2.out)
        clear hO1 ho HO H2
        go_wp2_with fail
        refine HF2.out.mono ?_
        rintro e w2 ⟨rfl, hL2⟩
        obtain ⟨A3, c3, W3, hrun, hL3, -⟩ := hL2.push HS.out (bareF s) (by simp) 26
        obtain ⟨q8, hq, f8, hE⟩ := HEND.out _ _ _ _ hL3
        have HE := Lib.hid hE
        have HRUN := Lib.hid hrun
        clear hL2 hL3 hE hrun HF2 e8 hgl
        unfold aggF bareF
        simp only
        go_wp2_with (at_builtin; refine wpList_append_eq rfl (.tmp 60) (.tmp 63) 26 26 rfl _ _ _ rfl rfl HRUN.out ?_)
        go_ret
        exact ⟨⟨_, rfl, by rw [HO1.out]; exact HE.out.1⟩, HE.out.2⟩
      · have hO1 : outF s = K := by rw [HO.out, if_neg ho]
        have HO1 := Lib.hid hO1
        obtain ⟨q8, hq, f8, hE⟩ := HEND.out _ _ _ _ H2.out
        have HE := Lib.hid hE
        have hcase : s.o = false ∨ (s.o = true ∧ (((K.length : Int)) == 0) = false) := by
          cases e : s.o with
          | false => exact .inl rfl
          | true =>
            refine .inr ⟨rfl, beq_eq_false_iff_ne.2 fun e2 => ho ⟨e, List.eq_nil_of_length_eq_zero (by omega)⟩⟩
        clear hO1 ho HO H2 hE q8
        rcases hcase with e | ⟨e, d2⟩
        · rw [e] at e8
          clear e
          go_wp2
          go_ret
          exact ⟨⟨_, rfl, by rw [HO1.out]; exact HE.out.1⟩, HE.out.2⟩
        · rw [e] at e8
          clear e
          go_wp2
          go_ret
          exact ⟨⟨_, rfl, by rw [HO1.out]; exact HE.out.1⟩, HE.out.2⟩
end
end Go.Proofs.Ytbpcbdlmkoajdaa
