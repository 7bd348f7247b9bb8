/- Package ring: a ring of elements of several cells: Push. -/
import Derived.Test.YtbpcbdlmkoajdaaRingDM
namespace Go.Proofs.Ytbpcbdlmkoajdaa
open Go Go.RowKit
set_option maxRecDepth 100000
set_option maxHeartbeats 1000000
set_option linter.unusedSimpArgs false

theorem RingCM.pushed {w : World} {p g room n first : Nat} {l : List Msg} (h : RingCM w p g room n first l) (hl : l.length < n) (x : Msg) (a : Nat) :
    RingM ((((w.drewN a).setCell ⟨g, ((first + l.length) % n) * 2, none⟩ (.string (str x.d))).setCell ⟨g, ((first + l.length) % n) * 2 + 1, none⟩ (.int .i64 (x.l : Int))).setCell ⟨p, 3, none⟩ (.int .i64 ((l.length : Int) + 1))) p g room (l ++ [x]) := by
  have hne := h.ne
  have hle := h.n_le
  obtain ⟨cur, hg, hz, hc⟩ := h.cells
  have hf := h.first_lt
  have hlen : ((l.length : Int) + 1) = ((l ++ [x]).length : Int) := by simp
  rw [hlen]
  refine .inr ⟨n, first, ⟨(((h.sits.drewN a).away (p := ⟨g, ((first + l.length) % n) * 2, none⟩) (Ne.symm hne) (.string (str x.d))).away (p := ⟨g, ((first + l.length) % n) * 2 + 1, none⟩) (Ne.symm hne) (.int .i64 (x.l : Int))).put 3 _, hf, hle, by simp; omega, h.small, _, (((hg.drewN a).put (((first + l.length) % n) * 2) (.string (str x.d))).put (((first + l.length) % n) * 2 + 1) (.int .i64 (x.l : Int))).away (p := ⟨p, 3, none⟩) hne _, by simp [hz], fun i hi => ?_⟩⟩
  simp only [List.length_append, List.length_singleton] at hi
  have hlt : (first + l.length) % n < n := Nat.mod_lt _ (by omega)
  simp only [Array.getElem?_setIfInBounds, Array.size_setIfInBounds]
  by_cases e : i = l.length
  · subst e
    have hx : (l ++ [x])[l.length] = x := by simp
    rw [hx]
    refine ⟨?_, ?_⟩ <;> simp <;> omega
  · have hil : i < l.length := by omega
    have e2 := round_ne hf (show l.length < n by omega) (show i < n by omega) (fun h => e h.symm)
    have e4 := hc i hil
    have hx : (l ++ [x])[i] = l[i] := by simp [List.getElem_append, hil]
    rw [hx]
    generalize (first + l.length) % n = m1 at e2 hlt ⊢
    generalize (first + i) % n = m2 at e2 e4 ⊢
    refine ⟨?_, ?_⟩
    · rw [if_neg (by omega), if_neg (by omega)]; exact e4.1
    · rw [if_neg (by omega), if_neg (by omega)]; exact e4.2
theorem pushM_any (p g room : Nat) (l : List Msg) (xs : List Msg) (A : Option Addr) (cap m : Nat) (hm : m = min xs.length (room - l.length)) (w : World) (h : RingM w p g room l)
    (hx : SliceAt 2 encM w (.slice A xs.length cap) xs) (hA : ∀ b o, 0 < xs.length → A = some ⟨b, o, none⟩ → b ≠ p ∧ b ≠ g) :
    Calls Try.prog 18 #[.pointer (some ⟨p, 0, none⟩), .slice A xs.length cap] w fun e w' => e = .returned (.int .i64 m) ∧ ∃ g', (g' = g ∨ w.heap.size ≤ g') ∧ RingM w' p g' room (l ++ xs.take m) ∧ Two p g w w' := by
  obtain ⟨h1, h2, _⟩ := h.head
  obtain ⟨A', cap', e0, hc1, hc2, hat⟩ := hx
  simp only [Value.slice.injEq, true_and] at e0
  obtain ⟨rfl, rfl⟩ := e0
  have hm1 : m ≤ xs.length := by omega
  have hm2 : m ≤ room - l.length := by omega
  have HH := Lib.hid h
  have HM : Hid (min (xs.length : Int) ((room : Int) - (l.length : Int)) = (m : Int)) := Lib.hid (by omega)
  have HAT := Lib.hid hat
  have HA := Lib.hid hA
  have H12 := Lib.hid (And.intro (And.intro h1 h2) (And.intro hm1 hm2))
  have dm : decide ((m : Int) ≤ (cap : Int)) = true := by simp; omega
  have dm2 : (m : Int) ≤ (cap : Int) := by omega
  have dm3 : (m : Int) ≤ 100000 := by omega
  have hxl : (xs.length : Int) ≤ 9223372036854775807 := by omega
  clear h h1 h2 hat hA hm hm1 hm2
  go_enter Try.func18, Try.ntmps18
  go_wp2_with (first | (go_at_call 30; refine (roomM_any p g room l w HH.out).mono ?_; rintro e w' ⟨rfl, nr, rfl⟩) | ((with_reducible refine at_list ?_); refine wpList_min_eq rfl (.tmp 9) (.tmp 11) _ rfl _ _ _ _ _ rfl rfl HM.out ?_))
  go_loopw [17] (fun i wr => ∃ k : Nat, k ≤ m ∧ i = .int .i64 k ∧ ∃ gk, (gk = g ∨ w.heap.size ≤ gk) ∧ RingM wr p gk room (l ++ xs.take k) ∧ Two p g w wr) (fun i _ => m - (intOf i).toNat)
  case atStart => exact ⟨0, by omega, rfl, g, .inl rfl, by simpa using HH.out.drewN _, (Two.refl p g w).drewN _⟩
  case round =>
    obtain ⟨k, hk, rfl, gk, hgk, hR, hT⟩ := hrel
    by_cases hlt : k < m
    · have hkx : k < xs.length := by have := H12.out; omega
      obtain ⟨b, o, rfl, hb, hat⟩ := HAT.out k hkx
      have hbp := HA.out b o (by omega) rfl
      have hlen : (l ++ xs.take k).length = l.length + k := by simp; omega
      have hroom : (l ++ xs.take k).length < room := by have := H12.out; omega
      obtain ⟨x, hx⟩ : ∃ x, x = xs[k] := ⟨_, rfl⟩
      rw [← hx] at hat
      have hca0 := hat 0 _ rfl
      rw [Nat.add_zero] at hca0
      have hcb0 : wr.cell? ⟨b, o + k * 2, none⟩ = some (.string (str x.d)) := by
        rw [← hca0]
        exact World.cell?_of_block (hT.block b hb hbp.1 hbp.2)
      clear hca0
      have hca1 := hat 1 _ rfl
      have hcb1 : wr.cell? ⟨b, o + k * 2 + 1, none⟩ = some (.int .i64 (x.l : Int)) := by
        rw [← hca1]
        exact World.cell?_of_block (hT.block b hb hbp.1 hbp.2)
      clear hca1
      have htake : xs.take (k + 1) = xs.take k ++ [x] := by rw [hx]; simp
      have hL2 : l ++ xs.take (k + 1) = (l ++ xs.take k) ++ [x] := by rw [htake, List.append_assoc]
      generalize l ++ xs.take k = L at hR hroom hL2
      have HL2 := Lib.hid hL2
      have hL100 : (L.length : Int) ≤ 100000 := by have := H12.out; omega
      clear hat hx hlen htake hbp hL2
      obtain ⟨W1, hW1⟩ : ∃ W, W = wr.alloc (.cells #[(.string (str x.d)), (.int .i64 (x.l : Int))] 46) := ⟨_, rfl⟩
      have hbv : Below wr.heap.size wr W1 := hW1 ▸ (Below.refl _ wr).alloc (Nat.le_refl _) _
      have HV : Hid (Sits W1 wr.heap.size 46 #[(.string (str x.d)), (.int .i64 (x.l : Int))]) := Lib.hid (hW1 ▸ Sits.fresh wr _ _)
      have HRL := Lib.hid hR.lt
      have HR := Lib.hid (hR.below hbv)
      have HT := Lib.hid (hT.then hbv)
      have HWW : Hid (w.heap.size ≤ wr.heap.size) := Lib.hid hT.size
      have HRO := Lib.hid hroom
      have HGK := Lib.hid hgk
      obtain ⟨vb, hvb⟩ : ∃ q, q = wr.heap.size := ⟨_, rfl⟩
      rw [← hvb] at HV HRL HWW
      have HN1 : Hid (W1.heap.size = vb + 1) := Lib.hid (by rw [hW1, World.size_alloc, hvb])
      clear hR hT hroom hgk hbv
      go_wp2_with fail
      rw [← hW1, ← hvb]
      clear hW1 hvb
      refine (growM_any p gk room _ W1 HR.out HRO.out).mono ?_
      rintro e w1 ⟨rfl, g2, hg2, ⟨n, first, hC, hln⟩, hT2⟩
      have hv := HV.out.two hT2 (by have := HRL.out; omega) (by have := HRL.out; omega)
      have v0 := hv.cell 0
      have v1 := hv.cell 1
      have hgv : g2 ≠ vb := by
        have := HRL.out
        have := HN1.out
        rcases hg2 with rfl | h <;> omega
      have HT3 := Lib.hid (HT.out.trans hT2 HGK.out)
      have hgk3 : g2 = g ∨ w.heap.size ≤ g2 := by
        have := HWW.out
        have := HN1.out
        rcases hg2 with rfl | h
        · exact HGK.out
        · exact .inr (by omega)
      have HGK3 := Lib.hid hgk3
      have HTF := Lib.hid (fun a => HT3.out.trans (((((Two.refl p g2 w1).drewN a).store2 (((first + L.length) % n) * 2) (.string (str x.d))).store2 (((first + L.length) % n) * 2 + 1) (.int .i64 (x.l : Int))).store1 3 (.int .i64 ((L.length : Int) + 1))) hgk3)
      have c1 := hC.sits.cell 1
      have c3 := hC.sits.cell 3
      have f3 := hC.sits.warm 3
      have hne := hC.ne
      have hs := hC.small
      have hn := hC.n_le
      obtain ⟨cur, hg, hz, _⟩ := hC.cells
      obtain ⟨q, hq⟩ : ∃ q, q = (first + L.length) % n := ⟨_, rfl⟩
      have hqn : q < n := by rw [hq]; exact Nat.mod_lt _ (by have := hC.first_lt; omega)
      have cg0 : w1.cell? ⟨g2, q * 2, none⟩ = some cur[q * 2] := by rw [hg.cell (q * 2)]; simp [hz] <;> omega
      have fg0 := hg.warm (q * 2)
      generalize cur[q * 2] = old0 at cg0
      have cg1 : w1.cell? ⟨g2, q * 2 + 1, none⟩ = some cur[q * 2 + 1] := by rw [hg.cell (q * 2 + 1)]; simp [hz] <;> omega
      have fg1 := hg.warm (q * 2 + 1)
      generalize cur[q * 2 + 1] = old1 at cg1
      have hp := fun a => hC.pushed hln x a
      rw [← hq] at hp HTF
      have HP := Lib.hid hp
      have HQ := Lib.hid hq
      have HC := Lib.hid hC
      have HLK : Hid (L.length ≤ 100000) := Lib.hid (by omega)
      have hn2 : (n : Int) ≤ 100000 := by omega
      have hqn2 : (q : Int) < (n : Int) := by omega
      clear hC hs hn hg hz hq hp hg2 hT2 hgk3 hln hv
      go_wp2_with fail
      go_region_with (refine (cellM_any p g2 room n first L L.length _ (HC.out.drewN 1) HLK.out).mono ?_; rintro e w' ⟨rfl, nn, rfl⟩; rw [← HQ.out])
      all_goals go_wp2
      all_goals go_roundw
      all_goals first
        | exact ⟨k + 1, by omega, by go_num, g2, HGK3.out, by rw [HL2.out]; exact HP.out _, HTF.out _⟩
        | (simp [intOf]; omega)
    · have hkm : k = m := by omega
      subst hkm
      have HR := Lib.hid hR
      have HT := Lib.hid hT
      have HGK := Lib.hid hgk
      clear hR hT hgk
      go_wp2
      go_ret
      exact ⟨rfl, gk, HGK.out, HR.out, HT.out⟩
end Go.Proofs.Ytbpcbdlmkoajdaa
