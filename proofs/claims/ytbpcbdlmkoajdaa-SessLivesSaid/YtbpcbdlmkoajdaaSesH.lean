/- Package sess: Tick, Take. -/
import Derived.Test.YtbpcbdlmkoajdaaSesG
import Derived.Lib.MinMax
namespace Go.Proofs.Ytbpcbdlmkoajdaa
open Go Go.RowKit Go.Maps SesP
set_option maxRecDepth 100000
set_option maxHeartbeats 4000000
set_option linter.unusedSimpArgs false
theorem RowAt.base_ {w : World} {base base' : Nat} {e : TypeId} {size : Nat} {v : Value} {n : Nat} {xs : List Value} (h : RowAt w base e size v n xs) (hb : base' ≤ base) : RowAt w base' e size v n xs := by
  refine ⟨h.1, ?_⟩
  rcases h.2 with h0 | ⟨g, o, cap, cur, rfl, h1, r⟩
  · exact .inl h0
  · exact .inr ⟨g, o, cap, cur, rfl, Nat.le_trans hb h1, r⟩
namespace SesP
theorem near_tickW {c : Nat} {s : Ses} (h : Near c s) : Near c (tickW s) := ⟨h.A, fun x hx => by
  obtain ⟨y, hy, rfl⟩ := List.mem_map.1 hx
  have := h.l y hy
  show y.l - 1 ≤ 4
  omega, h.k, h.n, h.c⟩
theorem near_met {c : Nat} {s : Ses} (h : Near c s) (f : Frm) : Near c (metS s f) := by
  unfold metS
  split
  · refine ⟨(fun i d hd => nomatch hd), fun x hx => ?_, Nat.zero_le _, Nat.zero_le _, h.c⟩
    obtain ⟨y, hy, rfl⟩ := List.mem_map.1 hx
    exact Nat.zero_le _
  · exact h
theorem near_owed {c : Nat} {s : Ses} (h : Near c s) (b : Bool) : Near c { s with o := b } := ⟨h.A, h.l, h.k, h.n, h.c⟩
theorem near_free {c : Nat} {s : Ses} (h : Near c s) (hl : s.W.length ≤ 64) (a : Int) : (freeS s a).k ≤ 100 * c + 64 ∧ (∀ x ∈ (freeS s a).W, x.l ≤ 4) ∧ (freeS s a).A = s.A ∧ (freeS s a).n = s.n := by
  have hk := h.k
  unfold freeS
  split
  · refine ⟨?_, fun x hx => h.l x (List.mem_of_mem_drop hx), rfl, rfl⟩
    show s.k + min (a - (s.k : Int)).toNat s.W.length ≤ _
    omega
  · exact ⟨by omega, h.l, rfl, rfl⟩
theorem near_heard {s : Ses} (hA : ∀ i d, s.A i = some d → (s.n : Int) < i ∧ i ≤ (s.n : Int) + 65) (q : Int) (d : List UInt8) : ∀ i e, (hearS s q d).A i = some e → (s.n : Int) < i ∧ i ≤ (s.n : Int) + 65 := by
  intro i e he
  unfold hearS at he
  split at he
  · exact hA i e he
  · rename_i h
    simp only [not_or] at h
    simp only at he
    by_cases hi : i = q
    · omega
    · rw [if_neg hi] at he
      exact hA i e he
theorem hearS_same (s : Ses) (q : Int) (d : List UInt8) : (hearS s q d).W = s.W ∧ (hearS s q d).k = s.k ∧ (hearS s q d).n = s.n ∧ (hearS s q d).y = s.y ∧ (hearS s q d).m = s.m := by
  unfold hearS
  split <;> simp
theorem near_free1 {c : Nat} {s : Ses} (h : Near c s) (hl : s.W.length ≤ 64) (hc : c + 1 ≤ 100000000) (a : Int) : Near (c + 1) (freeS s a) := by
  obtain ⟨h1, h2, h3, h4⟩ := near_free h hl a
  refine ⟨fun i d hd => ?_, h2, by omega, by rw [h4]; have := h.n; omega, hc⟩
  rw [h3] at hd
  rw [h4]
  exact h.A i d hd
theorem near_told {c : Nat} {s : Ses} (h : Near c s) (hl : s.W.length ≤ 64) (hc : c + 1 ≤ 100000000) (f : Frm) :
    Near (c + 1) (hearS { freeS s f.a with o := true } f.s f.d) ∧ Near (c + 1) (toldS (hearS { freeS s f.a with o := true } f.s f.d)) := by
  obtain ⟨h1, h2, h3, h4⟩ := near_free h hl f.a
  have hA := near_heard (s := { freeS s f.a with o := true }) (fun i d hd => by
    have hd : (freeS s f.a).A i = some d := hd
    rw [h3] at hd
    show ((freeS s f.a).n : Int) < i ∧ i ≤ ((freeS s f.a).n : Int) + 65
    rw [h4]
    exact h.A i d hd) f.s f.d
  obtain ⟨e1, e2, e3, e4, e5⟩ := hearS_same { freeS s f.a with o := true } f.s f.d
  have hn := h.n
  have e3' : (hearS { freeS s f.a with o := true } f.s f.d).n = s.n := e3.trans h4
  have e2' : (hearS { freeS s f.a with o := true } f.s f.d).k = (freeS s f.a).k := e2
  have hA' : ∀ i d, (hearS { freeS s f.a with o := true } f.s f.d).A i = some d → (s.n : Int) < i ∧ i ≤ (s.n : Int) + 65 := fun i d hd => by
    have := hA i d hd
    have e : ((freeS s f.a).n : Int) = (s.n : Int) := by rw [h4]
    show _ ∧ _
    simp only at this
    omega
  obtain ⟨t, ht⟩ : ∃ t, t = hearS { freeS s f.a with o := true } f.s f.d := ⟨_, rfl⟩
  rw [← ht] at e1 e2' e3' hA' ⊢
  clear ht hA e2 e3 e4 e5
  have hN : Near (c + 1) t := ⟨fun i d hd => by rw [e3']; exact hA' i d hd, by rw [e1]; exact h2, by rw [e2']; omega, by rw [e3']; omega, hc⟩
  have hf := told_few hN
  refine ⟨hN, fun i d hd => ?_, by show ∀ x ∈ t.W, _; rw [e1]; exact h2, by show t.k ≤ _; rw [e2']; omega, ?_, hc⟩
  · unfold toldS at hd ⊢
    simp only at hd ⊢
    split at hd
    · cases hd
    · have := hA' i d hd
      omega
  · show t.n + _ ≤ _
    rw [e3']
    rw [e3'] at hf
    omega
end SesP
theorem wrap_less (l : Nat) (h : l ≤ 4) : wrap64 ((l : Int) - 1) = (l : Int) - 1 := by unfold wrap64; omega
theorem max_less (l : Nat) : max ((l : Int) - 1) 0 = ((l - 1 : Nat) : Int) := by omega
section
variable {g p q m nn c : Nat} {s : Ses} {S : Nat → Prop} {w : World}
theorem stick_any (hS : ∀ k, w.heap.size ≤ k → S k) (h : SN g c s S w) :
    Calls Try.prog 9 #[.pointer (some ⟨g, 0, none⟩)] w fun e w' => (∃ v, e = .returned v ∧ FRow w' w.heap.size v (tickF s)) ∧ SN g c (tickS s) S w' ∧ Many S w w' := by
  have hN := h.near
  obtain ⟨p, q, m, nn, h, hnn, -⟩ := h
  have HR := Lib.hid (sready_yes h)
  have HS := Lib.hid hS
  have HNL := Lib.hid hN.l
  have hl64 := h.len
  have HREST : Hid (Calls Try.prog 19 #[.pointer (some ⟨p, 0, none⟩)] w fun e w' => ∃ b, e = .returned (.slice (some ⟨b, 0, none⟩) s.W.length s.W.length) ∧ b < w'.heap.size ∧ w.heap.size ≤ b ∧ LoopR g p q m nn s S w older s.W b 0 w') := Lib.hid (by
    refine (listM_any p q 64 s.W w h.ring).mono ?_
    rintro e w' ⟨rfl, hs, hb⟩
    refine ⟨_, rfl, hs.lt, Nat.le_refl _, ?_, hs, Many.of_below S hb⟩
    rw [turnK_zero]
    exact (h.less.below hb).mono fun k hk => ⟨hk.1, by have := hk.2; omega⟩)
  have HOUT : Hid (∀ b W, LoopR g p q m nn s S w older s.W b s.W.length W → Calls Try.prog 11 #[.pointer (some ⟨g, 0, none⟩)] W fun e w' => (∃ v, e = .returned v ∧ FRow w' w.heap.size v (tickF s)) ∧ SN g c (tickS s) S w' ∧ Many S w w') := Lib.hid fun b W hW => by
    have h1 := hW.sr
    rw [turnK_all] at h1
    refine (sout_any (s := tickW s) (fun k hk => hS k (Nat.le_trans hW.many.size hk)) ⟨p, q, m, nn, h1.mono fun k hk => hk.1, hnn, near_tickW hN⟩).mono ?_
    rintro e w' ⟨⟨v, he, hr⟩, hs, hm⟩
    exact ⟨⟨v, he, hr.base_ hW.many.size⟩, hs, hW.many.trans hm⟩
  obtain ⟨-, -, -, -, c4, -, -, -, -, hgl⟩ := h.cells
  clear h hN hS hnn
  go_enter Try.func9, Try.ntmps9
  go_wp2_with fail
  refine HR.out.mono ?_
  rintro e w' ⟨rfl, rfl⟩
  go_wp2_with fail
  refine HREST.out.mono ?_
  rintro e w2 ⟨b, rfl, hbl, hbw, hL0⟩
  have HL0 := Lib.hid hL0
  clear hL0 HREST c4 hgl HR
  go_wp2_with fail
  go_loopw [14] (fun v wr => ∃ k : Nat, k ≤ s.W.length ∧ v = .int .i64 k ∧ Hid (LoopR g p q m nn s S w older s.W b k wr)) (fun v _ => s.W.length - (intOf v).toNat)
  case atStart => exact ⟨0, Nat.zero_le _, rfl, HL0⟩
  case round =>
    obtain ⟨k, hk, rfl, hI⟩ := hrel
    by_cases hlt : k < s.W.length
    · have hltI : (k : Int) < (s.W.length : Int) := by omega
      have hkI : (k : Int) ≤ 64 := by omega
      obtain ⟨e0, e1⟩ := cellsM_two s.W k hlt
      have lc0 : wr.cell? ⟨b, k * 2, none⟩ = some (.string (str s.W[k].d)) := by rw [hI.out.list.cell]; simpa using e0
      have lc1 : wr.cell? ⟨b, k * 2 + 1, none⟩ = some (.int .i64 (s.W[k].l : Int)) := by rw [hI.out.list.cell]; simpa using e1
      have hbl := hI.out.list.lt
      have hnow : older s.W[k] = ⟨s.W[k].d, s.W[k].l - 1⟩ := rfl
      have hx4 := HNL.out s.W[k] (List.getElem_mem hlt)
      obtain ⟨x, hx⟩ : ∃ x, x = s.W[k] := ⟨_, rfl⟩
      rw [← hx] at lc0 lc1 hnow hx4
      have hww := wrap_less x.l hx4
      have hmx := max_less x.l
      obtain ⟨W1, hW1⟩ : ∃ W, W = wr.alloc (.cells #[.string (str x.d), .int .i64 ((x.l - 1 : Nat) : Int)] 46) := ⟨_, rfl⟩
      have hb1 : Below wr.heap.size wr W1 := hW1 ▸ (Below.refl _ wr).alloc (Nat.le_refl _) _
      have hs1 : Sits W1 wr.heap.size 46 #[.string (str x.d), .int .i64 ((x.l - 1 : Nat) : Int)] := hW1 ▸ Sits.fresh wr _ _
      have m0 : W1.cell? ⟨wr.heap.size, 0, none⟩ = some (.string (str x.d)) := hs1.cell 0
      have m1 : W1.cell? ⟨wr.heap.size, 1, none⟩ = some (.int .i64 ((x.l - 1 : Nat) : Int)) := hs1.cell 1
      have hml := hs1.lt
      have hL1 := hI.out.below hb1
      have c4 : W1.cell? ⟨g, 4, none⟩ = some (.pointer (some ⟨p, 0, none⟩)) := hL1.sr.cells.2.2.2.2.1
      have hgl := hL1.sr.sits.lt
      have HSET : Hid (∀ W, Below W1.heap.size W1 W → Calls Try.prog 20 #[.pointer (some ⟨p, 0, none⟩), .int .i64 k, .agg #[.string (str x.d), .int .i64 ((x.l - 1 : Nat) : Int)]] W fun e w' => e = .returned (.bool true) ∧ LoopR g p q m nn s S w older s.W b (k + 1) w') := Lib.hid fun W hW =>
        LoopR.set (fun i hi => HS.out i (Nat.le_trans (Nat.le_trans hI.out.many.size hb1.size) (Nat.le_trans hW.size hi))) (hL1.below hW) hlt ⟨x.d, x.l - 1⟩ (by rw [← hx, hnow])
      have HLT := Lib.hid hlt
      clear hb1 hs1 hL1 e0 e1 hx hnow hI hlt hx4
      obtain ⟨z, hz⟩ : ∃ z, z = x.l - 1 := ⟨_, rfl⟩
      rw [← hz] at hW1 m1 HSET hmx
      clear hz
      go_wp2_with fail
      rw [← hW1]
      clear hW1 lc0 lc1 hbl hww hmx
      go_region_with (go_at_call 20; refine (HSET.out _ (by first | exact Below.refl _ _ | exact (Below.refl _ _).drew)).mono ?_; rintro e w4 ⟨rfl, hL4⟩)
      all_goals
        have HL4 := Lib.hid hL4
        clear hL4
        go_wp2_with fail
        refine ⟨⟨k + 1, HLT.out, by go_num, HL4⟩, by simp [intOf]; have := HLT.out; omega⟩
    · obtain rfl : k = s.W.length := by omega
      have HO := Lib.hid (HOUT.out b wr hI.out)
      clear hI HOUT
      go_wp2_with fail
      refine HO.out.mono ?_
      rintro e w5 ⟨⟨v, rfl, hr⟩, hs⟩
      have HZ := Lib.hid (And.intro hr hs)
      clear hr hs
      go_wp2
      go_ret
      exact ⟨⟨_, rfl, HZ.out.1⟩, HZ.out.2⟩
end

end Go.Proofs.Ytbpcbdlmkoajdaa
