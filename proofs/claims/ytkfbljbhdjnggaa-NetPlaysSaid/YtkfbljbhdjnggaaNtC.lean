/- Package net: Send. -/
import Derived.Test.YtkfbljbhdjnggaaNtB
namespace Go.Proofs.Ytkfbljbhdjnggaa
open Go Go.RowKit Go.Maps NetP
set_option maxRecDepth 100000
set_option maxHeartbeats 1000000
set_option linter.unusedSimpArgs false

/-- A net, or a zero one. -/
def NX (g c : Nat) (L : List Pk) (C : List (Int × Int)) (S : Nat → Prop) (w : World) : Prop := NN g c L C S w ∨ (ZN g S w ∧ L = [] ∧ C = [])
theorem holdNX (g c : Nat) (L : List Pk) (C : List (Int × Int)) : Hold (NX g c L C) where
  keep := fun h hk => h.imp (fun h => (holdNN g c L C).keep h hk) fun h => ⟨(holdZN g).keep h.1 hk, h.2⟩
  mono := fun h hs => h.imp (fun h => (holdNN g c L C).mono h hs) fun h => ⟨(holdZN g).mono h.1 hs, h.2⟩
  less := fun h => h.imp (fun h => (holdNN g c L C).less h) fun h => ⟨(holdZN g).less h.1, h.2⟩
theorem NX.len {g c : Nat} {L : List Pk} {C : List (Int × Int)} {S : Nat → Prop} {w : World} (h : NX g c L C S w) : L.length ≤ 900 := by
  rcases h with h | ⟨_, rfl, _⟩
  · exact h.len
  · simp
theorem NN.more {g c c' : Nat} {L : List Pk} {C : List (Int × Int)} {S : Nat → Prop} {w : World} (h : NN g c L C S w) (hc : c ≤ c') : NN g c' L C S w := by
  obtain ⟨p, q, m, n, h1, h2, h3, h4, h5⟩ := h
  exact ⟨p, q, m, n, h1, h2, h3, Nat.le_trans h4 hc, h5⟩
theorem ready_any {g c : Nat} {L : List Pk} {C : List (Int × Int)} {S : Nat → Prop} {w : World} (hS : ∀ k, w.heap.size ≤ k → S k) (h : NX g c L C S w) :
    Calls Try.prog 31 #[.pointer (some ⟨g, 0, none⟩)] w fun e w' => e = .returned (.bool true) ∧ NN g c L C S w' ∧ Many S w w' := by
  rcases h with h | ⟨h, rfl, rfl⟩
  · exact (ready_yes h).mono fun e w' ⟨he, hw⟩ => ⟨he, hw ▸ h, hw ▸ Many.refl S w⟩
  · exact (ready_zero hS h).mono fun e w' ⟨he, hn, hm⟩ => ⟨he, hn.more (Nat.zero_le _), hm⟩
theorem push_one {g c b : Nat} {L : List Pk} {C : List (Int × Int)} {S : Nat → Prop} {p q m n : Nat} {W : World} (hS : ∀ k, W.heap.size ≤ k → S k)
    (h1 : Sits W g 34 #[.pointer (some ⟨p, 0, none⟩), .map (some m)]) (h2 : RingK W p q 900 L) (h3 : MapE W m n C) (h4 : n ≤ c) (h5 : S g) (h6 : S p) (h7 : S q) (h8 : S m) (x : Pk)
    (hb : Sits W b 45 #[.int .i64 x.f, .int .i64 x.t, .string (str x.d)]) (hbp : b ≠ p) (hbq : b ≠ q) :
    Calls Try.prog 33 #[.pointer (some ⟨p, 0, none⟩), .slice (some ⟨b, 0, none⟩) 1 1] W fun e w' => e = .returned (.int .i64 (if 900 ≤ L.length then 0 else 1)) ∧ NN g c (if 900 ≤ L.length then L else L ++ [x]) C S w' ∧ Many S W w' := by
  have hx : SliceAt 3 encK W (.slice (some ⟨b, 0, none⟩) [x].length 1) [x] := by
    refine ⟨_, _, rfl, by simp, by simp, fun i hi => ?_⟩
    obtain rfl : i = 0 := by simp at hi; omega
    exact ⟨b, 0, rfl, hb.lt, fun j u hu => by rw [Nat.zero_add, hb.cell j]; simpa [encK] using hu⟩
  have hpq := h2.head.2.1
  refine (pushK_any p q 900 L [x] (some ⟨b, 0, none⟩) 1 (min 1 (900 - L.length)) rfl W h2 hx (fun b' o' _ e => by injection e with e; injection e with e1 e2 _; subst e1; exact ⟨hbp, hbq⟩)).mono ?_
  rintro e w' ⟨rfl, q', hq', hr, ht⟩
  have hgp : g ≠ p := by
    obtain ⟨_, _, _, _, hs⟩ := h2.head
    exact h1.apart hs (by decide)
  have hgq : g ≠ q := by
    rcases h2 with ⟨_, rfl, _, hs⟩ | ⟨_, _, h2⟩
    · exact hgp
    · obtain ⟨cur, hc, _⟩ := h2.cells
      exact h1.apart hc (by decide)
  have hmap : ∀ {i t : Nat} {cs : Array Value}, Sits W i t cs → m ≠ i := fun {i t cs} hs e => by
    obtain ⟨D, ⟨es, clock, hb, _⟩, _⟩ := h3
    subst e
    unfold Sits at hs
    rw [hb] at hs
    cases hs
  have hmp : m ≠ p := by
    obtain ⟨_, _, _, _, hs⟩ := h2.head
    exact hmap hs
  have hmq : m ≠ q := by
    rcases h2 with ⟨_, rfl, _, hs⟩ | ⟨_, _, h2⟩
    · exact hmp
    · obtain ⟨cur, hc, _⟩ := h2.cells
      exact hmap hc
  have hm : Many S W w' := ⟨ht.os, ht.tape, ht.output, ht.size, fun k hk hn => ht.block k hk (fun e => hn (e ▸ h6)) (fun e => hn (e ▸ h7))⟩
  by_cases hl : 900 ≤ L.length
  · rw [if_pos hl, if_pos hl]
    rw [show min 1 (900 - L.length) = 0 by omega] at hr ⊢
    rw [List.take_zero, List.append_nil] at hr
    exact ⟨rfl, ⟨p, q', m, n, (ht.block g h1.lt hgp hgq).trans h1, hr, h3.keep (ht.block m h3.lt hmp hmq), h4, h5, h6, hq'.elim (fun e => e ▸ h7) (hS _), h8⟩, hm⟩
  · rw [if_neg hl, if_neg hl]
    rw [show min 1 (900 - L.length) = 1 by omega] at hr ⊢
    exact ⟨rfl, ⟨p, q', m, n, (ht.block g h1.lt hgp hgq).trans h1, hr, h3.keep (ht.block m h3.lt hmp hmq), h4, h5, h6, hq'.elim (fun e => e ▸ h7) (hS _), h8⟩, hm⟩
theorem nsend_any {g c : Nat} {L : List Pk} {C : List (Int × Int)} {S : Nat → Prop} {w : World} (hS : ∀ k, w.heap.size ≤ k → S k) (h : NX g c L C S w) (v : Value) (l : List Pk) (hv : ∀ w', Many S w w' → Pks w' v l) (hn : l.length ≤ 10000) (hI : ∀ x ∈ l, InR (x.f, x.t)) :
    Calls Try.prog 11 #[.pointer (some ⟨g, 0, none⟩), v] w fun e w' => e = .returned (.int .i64 ((sendF C L l).2 : Int)) ∧ NN g c (sendF C L l).1 C S w' ∧ Many S w w' := by
  obtain ⟨A, cap, rfl, -⟩ := Pks.read (hv w (Many.refl S w))
  have hlen : (l.length : Int) ≤ 10000 := by omega
  have HL : Hid (L.length ≤ 900) := Lib.hid h.len
  have HR := Lib.hid (ready_any hS h)
  have HV := Lib.hid hv
  have HS := Lib.hid hS
  have HI := Lib.hid hI
  clear hv h hS hI
  go_enter Try.func11, Try.ntmps11
  go_wp2_with fail
  refine HR.out.mono ?_
  rintro e w0 ⟨rfl, h0, hm0⟩
  have H0 := Lib.hid h0
  have HM0 := Lib.hid hm0
  clear h0 hm0 HR
  go_wp2_with fail
  go_loopw [5, 13] (fun cv iv wr => ∃ k : Nat, k ≤ l.length ∧ iv = .int .i64 k ∧ cv = .int .i64 ((sendF C L (l.take k)).2 : Int) ∧ Hid (NN g c (sendF C L (l.take k)).1 C S wr ∧ Many S w wr)) (fun _ i _ => l.length - (intOf i).toNat)
  case atStart => exact ⟨0, by omega, rfl, by simp [sendF], Lib.hid ⟨by simpa [sendF] using H0.out, HM0.out⟩⟩
  case round =>
    obtain ⟨k, hk, rfl, rfl, hI⟩ := hrel
    by_cases hlt : k < l.length
    · obtain ⟨hrn, hmm⟩ := hI.out
      have hlen2 := sendF_len C L HL.out l k hk
      have hstep := sendF_take C L l k hlt
      have hxa : ∃ b o, A = some ⟨b, o, none⟩ ∧ b < wr.heap.size ∧ wr.cell? ⟨b, o + k * 3, none⟩ = some (.int .i64 l[k].f) ∧ wr.cell? ⟨b, o + k * 3 + 1, none⟩ = some (.int .i64 l[k].t) ∧ wr.cell? ⟨b, o + k * 3 + 2, none⟩ = some (.string (str l[k].d)) := by
        obtain ⟨A', cap', he, _, _, h3⟩ := Pks.read (HV.out wr hmm)
        injection he with he1 _ he2
        subst he1 he2
        exact h3 k hlt
      obtain ⟨b, o, rfl, hb, hc0, hc1, hc2⟩ := hxa
      have hxr := HI.out l[k] (List.getElem_mem hlt)
      obtain ⟨⟨K, n⟩, hK⟩ : ∃ R, R = sendF C L (l.take k) := ⟨_, rfl⟩
      rw [← hK] at hlen2 hstep hrn ⊢
      simp only at hlen2 hrn ⊢
      obtain ⟨x, hx⟩ : ∃ x, x = l[k] := ⟨_, rfl⟩
      rw [← hx] at hstep hc0 hc1 hc2 hxr
      have hnI : (n : Int) ≤ 10000 := by omega
      have hltI : (k : Int) < (l.length : Int) := by omega
      obtain ⟨W1, hW1⟩ : ∃ W, W = wr.alloc (.cells #[.int .i64 x.f, .int .i64 x.t, .string (str x.d)] 45) := ⟨_, rfl⟩
      have hb1 : Below wr.heap.size wr W1 := hW1 ▸ (Below.refl _ wr).alloc (Nat.le_refl _) _
      have hs1 : Sits W1 wr.heap.size 45 #[.int .i64 x.f, .int .i64 x.t, .string (str x.d)] := hW1 ▸ Sits.fresh wr _ _
      have h1 := hrn.below hb1
      have hm1 := hmm.then hb1
      have HC := Lib.hid (isCut_any h1 x.f x.t hxr)
      have HST := Lib.hid hstep
      have HSX := Lib.hid hs1
      have y0 := hs1.cell 0
      have y1 := hs1.cell 1
      have y2 := hs1.cell 2
      have hl1 := hs1.lt
      have H1 := Lib.hid (And.intro h1 hm1)
      have HLK : Hid (K.length ≤ 900) := Lib.hid hlen2.1
      clear hI hstep hK hx h1 hm1 hs1 hb1 hrn hmm hlen2 hxr
      go_wp2_with fail
      rw [← hW1]
      clear hW1 hc0 hc1 hc2
      obtain ⟨B, hB⟩ : ∃ B, B = decide (endsP x.f x.t ∈ C) := ⟨_, rfl⟩
      rw [← hB] at HC
      refine HC.out.mono ?_
      rintro e w2 ⟨rfl, hb2⟩
      have h2 := H1.out.1.below hb2
      have hm2 := H1.out.2.then hb2
      have hs2 := HSX.out.below' hb2
      clear HC y0 y1 y2 hl1 HSX hb2
      cases B with
      | true =>
        have HX : Hid (sendF C L (l.take (k + 1)) = (K, n)) := Lib.hid (by rw [HST.out]; unfold send1 lostB; rw [if_pos (by rw [← hB]; simp)])
        have HNX := Lib.hid (And.intro h2 hm2)
        clear h2 hm2 hs2 hB
        go_wp2_with fail
        go_roundw
        case rel => exact ⟨k + 1, by omega, by go_num, by rw [HX.out], Lib.hid (by rw [HX.out]; exact HNX.out)⟩
        case measure => simp [intOf]; omega
      | false =>
        have hSz : ∀ q, w2.heap.size ≤ q → S q := fun q hq => HS.out q (Nat.le_trans hm2.size hq)
        obtain ⟨p, q, m, n', s1, s2, s3, s4, s5, s6, s7, s8⟩ := h2
        have c0 : w2.cell? ⟨g, 0, none⟩ = some (.pointer (some ⟨p, 0, none⟩)) := s1.cell 0
        have hgl := s1.lt
        have y0 := hs2.cell 0
        have y1 := hs2.cell 1
        have y2 := hs2.cell 2
        have hl1 := hs2.lt
        have hb3 : Below w2.heap.size w2 (w2.alloc (.cells #[.int .i64 x.f, .int .i64 x.t, .string (str x.d)] 45)).drew := ((Below.refl _ w2).alloc (Nat.le_refl _) _).drew
        have hs3 : Sits (w2.alloc (.cells #[.int .i64 x.f, .int .i64 x.t, .string (str x.d)] 45)).drew w2.heap.size 45 #[.int .i64 x.f, .int .i64 x.t, .string (str x.d)] := (Sits.fresh w2 _ _).drew
        have hpl := s2.lt
        have HP := Lib.hid (push_one (fun k hk => hSz k (Nat.le_trans hb3.size hk)) (s1.below' hb3) (s2.below hb3) (s3.below hb3) s4 s5 s6 s7 s8 x hs3 (by omega) (by omega))
        have hm3 := hm2.then hb3
        have HM3 := Lib.hid hm3
        have HX : Hid (sendF C L (l.take (k + 1)) = (if 900 ≤ K.length then K else K ++ [x], n + (if 900 ≤ K.length then 0 else 1))) := Lib.hid (by
          rw [HST.out]; unfold send1 lostB
          by_cases h9 : 900 ≤ K.length
          · rw [if_pos (by simp [h9]), if_pos h9, if_pos h9]; rfl
          · rw [if_neg (by rw [← hB]; simp [h9]), if_neg h9, if_neg h9])
        obtain ⟨K2, hK2⟩ : ∃ K2, K2 = if 900 ≤ K.length then K else K ++ [x] := ⟨_, rfl⟩
        obtain ⟨z, hz, hzi⟩ : ∃ z : Nat, z = (if 900 ≤ K.length then 0 else 1) ∧ (if 900 ≤ K.length then (0 : Int) else 1) = (z : Int) := by
          by_cases h9 : 900 ≤ K.length
          · exact ⟨0, by rw [if_pos h9], by rw [if_pos h9]; rfl⟩
          · exact ⟨1, by rw [if_neg h9], by rw [if_neg h9]; rfl⟩
        have hzl : (z : Int) ≤ 1 := by subst hz; split <;> omega
        rw [← hK2, ← hz] at HX
        rw [← hK2, hzi] at HP
        clear hzi hz hK2 hB s1 s2 s3 s4 s5 s6 s7 s8 hs2 hm2 hSz hb3 hs3 hpl hm3
        go_wp2_with fail
        go_region_with (go_at_call 33; refine HP.out.mono ?_; rintro e w4 ⟨rfl, hn4, hm4⟩)
        all_goals
          have HNX := Lib.hid (And.intro hn4 (HM3.out.trans hm4))
          clear hn4 hm4
          go_wp2_with fail
          refine ⟨⟨k + 1, by omega, by go_num, by rw [HX.out]; go_num, Lib.hid (by rw [HX.out]; exact HNX.out)⟩, by simp [intOf]; omega⟩
    · obtain rfl : k = l.length := by omega
      have hI2 := hI.out
      rw [List.take_length] at hI2 ⊢
      have HJ := Lib.hid hI2
      clear hI hI2
      go_wp2
      go_ret
      exact ⟨rfl, HJ.out⟩
end Go.Proofs.Ytkfbljbhdjnggaa
