/- Package tick: what Step of a clock answers and leaves. -/
import Derived.Test.YtbgogbelnipfdaaTck
import Derived.Test.YtbgogbelnipfdaaMinMax
import Derived.StillTailTactics
namespace Go.Proofs.Ytbgogbelnipfdaa
open Go Go.RowKit TckP
set_option maxRecDepth 100000
set_option maxHeartbeats 1000000
set_option linter.unusedSimpArgs false

theorem sum_take_succ (L : List Int) (k : Nat) (hk : k < L.length) : (L.take (k + 1)).sum = (L.take k).sum + L[k] := by
  rw [List.take_succ_eq_append_getElem hk, List.sum_append]
  simp
theorem sum_take_in {L : List Int} (h : ∀ x ∈ L, 0 ≤ x ∧ x ≤ 8) (h8 : L.length ≤ 8) (k : Nat) : 0 ≤ (L.take k).sum ∧ (L.take k).sum ≤ 64 := by
  have h1 := sum_le (L := L.take k) fun x hx => h x (List.mem_of_mem_take hx)
  rw [List.length_take] at h1
  omega
section
variable {p : Nat} {A : Option Addr} {c : Clk} {L : List Int} {S S' : Nat → Prop} {w w' : World}
theorem inBound_any (r g : Nat) (h : RingI w r g 8 L) (hel : ∀ x ∈ L, 0 ≤ x ∧ x ≤ 8) :
    Calls Try.prog 21 #[.pointer (some ⟨r, 0, none⟩)] w fun e w' => e = .returned (.bool (inB L)) ∧ Below w.heap.size w w' := by
  have hl : L.length ≤ 8 := h.head.2.1
  have HB := Lib.hid (fun k => below_drewN (Below.refl w.heap.size w) k)
  by_cases h8 : L.length < 8
  · have hRo := roomI_any r g 8 L w h
    obtain ⟨k, hk⟩ : ∃ k : Nat, ((8 : Nat) : Int) - (L.length : Int) = (k : Int) := ⟨8 - L.length, by omega⟩
    have hk0 : decide ((0 : Int) < (k : Int)) = true := decide_eq_true (by omega)
    have hk1 : 0 < k := by omega
    rw [hk] at hRo
    have HRo := Lib.hid hRo
    have HE : Hid (inB L = true) := Lib.hid (by simp [inB, h8])
    clear h hel hl h8 hk hRo
    go_enter Try.func21, Try.ntmps21
    go_wp2_with fail
    refine HRo.out.mono ?_
    rintro e w4 ⟨rfl, n4, rfl⟩
    go_wp2
    go_ret
    exact ⟨by rw [HE.out]; rfl, HB.out _⟩
  · have hRo := roomI_any r g 8 L w h
    rw [show ((8 : Nat) : Int) - (L.length : Int) = 0 by omega] at hRo
    have HRo := Lib.hid hRo
    have HL := Lib.hid (fun n => listI_any r g 8 L (w.drewN n) (h.drewN n))
    have HSum : Hid (∀ k, 0 ≤ (L.take k).sum ∧ (L.take k).sum ≤ 64) := Lib.hid (sum_take_in hel hl)
    have HL8 : Hid (L.length = 8) := Lib.hid (by omega)
    clear h hel hl h8 hRo
    go_enter Try.func21, Try.ntmps21
    go_wp2_with fail
    refine HRo.out.mono ?_
    rintro e w4 ⟨rfl, n4, rfl⟩
    go_wp2_with fail
    refine (HL.out n4).mono ?_
    rintro e w5 ⟨rfl, hs, hb⟩
    have hb5 : Below w.heap.size w w5 := (HB.out n4).trans (hb.mono (HB.out n4).size)
    have hs5 : Sits w5 w.heap.size 3 (L.map (fun x => (Value.int .i64 x))).toArray := hs
    have HS := Lib.hid hs5
    have HB5 := Lib.hid hb5
    have hlt := hs5.lt
    have hz : (w.drewN n4).heap.size = w.heap.size := rfl
    have hll : (L.length : Int) = 8 := by have := HL8.out; omega
    clear hs hb hs5 hb5
    go_wp2_with fail
    go_loopw [3, 5, 12] (fun sv _ iv wr => ∃ k : Nat, k ≤ L.length ∧ iv = .int .i64 (k : Int) ∧ sv = .int .i64 (L.take k).sum ∧ wr = w5) (fun _ _ i _ => L.length - (intOf i).toNat)
    case atStart => exact ⟨0, by omega, rfl, by simp, rfl⟩
    case round =>
      obtain ⟨k, hk, rfl, rfl, rfl⟩ := hrel
      obtain ⟨s, hs⟩ : ∃ s, s = (L.take k).sum := ⟨_, rfl⟩
      have hsb := HSum.out k
      rw [← hs] at hsb ⊢
      have HSS := Lib.hid hs
      by_cases hlt' : k < L.length
      · obtain ⟨y, hy⟩ : ∃ y, y = L[k] := ⟨_, rfl⟩
        have hsn : Hid ((L.take (k + 1)).sum = s + y) := Lib.hid (by rw [sum_take_succ L k hlt', hs, hy])
        have hck : wr.cell? ⟨w.heap.size, k, none⟩ = some (.int .i64 y) := by rw [HS.out.cell k]; simp [hlt', hy]
        have hyb := HSum.out (k + 1)
        rw [hsn.out] at hyb
        have ew : IntKind.i64.wrap (s + y) = s + y := IntWalk.i64_in _ (by omega)
        clear hs hy
        go_wp2
        go_roundw
        case rel => exact ⟨k + 1, by omega, by go_num, by rw [hsn.out], trivial⟩
        case measure => simp [intOf]; omega
      · have hkl : k = L.length := by omega
        have he : inB L = (decide (7 ≤ s) && decide (s ≤ 9)) := by
          rw [hs, hkl, List.take_length]
          simp [inB, HL8.out]
        have HE := Lib.hid he
        clear hs he hkl
        cases d1 : decide (7 ≤ s) <;> cases d2 : decide (s ≤ 9)
        all_goals
          rw [d1, d2] at HE
          simp only [Bool.and_false, Bool.false_and, Bool.and_true, Bool.true_and, Bool.and_self] at HE
          go_wp2
          go_ret
          exact ⟨by rw [HE.out]; rfl, HB5.out⟩
theorem ringI_ne {r g t : Nat} {cs : Array Value} (hr : RingI w r g 8 L) (hs : Sits w p t cs) (h1 : t ≠ 54) (h2 : t ≠ 3) : p ≠ r ∧ p ≠ g := by
  have hpr : p ≠ r := by
    obtain ⟨_, _, _, _, hp⟩ := hr.head
    exact hs.apart hp h1
  refine ⟨hpr, ?_⟩
  rcases hr with ⟨_, rfl, _, _⟩ | ⟨_, _, h⟩
  · exact hpr
  · obtain ⟨cur, hc, _⟩ := h.cells
    exact hs.apart hc h2
theorem LastAt.away {t : Nat} {cs : Array Value} (h : LastAt S w A L) (hs : Sits w p t cs) (h1 : t ≠ 54) (h2 : t ≠ 3) (i : Nat) (u : Value) : LastAt S (w.setCell ⟨p, i, none⟩ u) A L := by
  rcases h with h | ⟨r, g, h3, h4, h5, h6⟩
  · exact .inl h
  · have := ringI_ne h4 hs h1 h2
    exact .inr ⟨r, g, h3, h4.away (Ne.symm this.1) (Ne.symm this.2) i u, h5, h6⟩
theorem tstep_turns (x : Int) (hr : (c.real : Int) ≤ 1000000000000) : Turns (CK p c) (CK p (stepF c x)) 12 #[.pointer (some ⟨p, 0, none⟩), .int .i64 x] (.returned (.int .i64 (stepF c x).now)) := by
  rintro S w hS ⟨A, h⟩
  have HX : Hid (min (max x 0) 8 = clampF x) := Lib.hid rfl
  obtain ⟨y, hy⟩ : ∃ y, y = clampF x := ⟨_, rfl⟩
  have hc1 := clamp_lo x
  have hc2 := clamp_hi x
  have hok := h.ok
  have hn1 := hok.lo
  have hn2 := hok.hi
  obtain ⟨L', hL'⟩ : ∃ L', L' = followF c.L y := ⟨_, rfl⟩
  have hst : stepF c x = ⟨c.now + y, c.real + 1, L', c.b || !inB L'⟩ := by rw [hL', hy]; rfl
  have hok' := ok_step hok x
  rw [hst] at hok' ⊢
  rw [← hy] at HX hc1 hc2
  have c0 := h.sits.cell 0
  have c1 := h.sits.cell 1
  have c2 := h.sits.cell 2
  have c3 := h.sits.cell 3
  have f0 := h.sits.warm 0
  have f1 := h.sits.warm 1
  have f2 := h.sits.warm 2
  have f3 := h.sits.warm 3
  have ew0 : IntKind.i64.wrap (c.now + y) = c.now + y := IntWalk.i64_in _ (by omega)
  have ew1 : IntKind.i64.wrap ((c.real : Int) + 1) = (c.real : Int) + 1 := IntWalk.i64_in _ (by omega)
  have hs2 := (h.sits.put 0 (.int .i64 (c.now + y))).put 1 (.int .i64 ((c.real : Int) + 1))
  have hl2 := (h.last.away h.sits (by decide) (by decide) 0 (.int .i64 (c.now + y))).away (h.sits.put 0 (.int .i64 (c.now + y))) (by decide) (by decide) 1 (.int .i64 ((c.real : Int) + 1))
  have hm2 := ((Many.refl S w).store h.p 0 (.int .i64 (c.now + y))).store h.p 1 (.int .i64 ((c.real : Int) + 1))
  obtain ⟨W2, hW2⟩ : ∃ W2, W2 = (w.setCell ⟨p, 0, none⟩ (.int .i64 (c.now + y))).setCell ⟨p, 1, none⟩ (.int .i64 ((c.real : Int) + 1)) := ⟨_, rfl⟩
  rw [← hW2] at hs2 hl2 hm2
  have HF := Lib.hid (followed_any hl2 hok.len y)
  rw [← hL'] at HF
  have HS2 : Hid (Sits W2 p 31 #[.int .i64 (c.now + y), .int .i64 ((c.real : Int) + 1), .pointer A, .bool c.b]) := Lib.hid hs2
  have HM2 := Lib.hid hm2
  have HEL : Hid (∀ z ∈ L', 0 ≤ z ∧ z ≤ 8) := Lib.hid hok'.el
  have HOK := Lib.hid hok'
  have HP := Lib.hid (And.intro h.p hS)
  obtain ⟨b, hb⟩ : ∃ b, b = c.b := ⟨_, rfl⟩
  rw [← hb] at c3 HS2 HOK ⊢
  have hlt := h.sits.lt
  clear h hs2 hl2 hm2 hok hok' hst hL' hy hS hn1 hn2 hc1 hc2 hb
  go_enter Try.func12, Try.ntmps12
  go_wp2_with (first | ((with_reducible refine at_list ?_); refine wpList_max_eq rfl (.tmp 7) (.const (.int .i64 0)) _ rfl _ _ _ _ _ rfl rfl rfl ?_) | ((with_reducible refine at_list ?_); refine wpList_min_eq rfl (.tmp 8) (.const (.int .i64 8)) _ rfl _ _ _ _ _ rfl rfl HX.out ?_))
  rw [← hW2]
  refine HF.out.mono ?_
  rintro e w3 ⟨r, g, rfl, hR, hr1, hg1, hb3⟩
  have hs3 := HS2.out.below' hb3
  have hm3 : Many S w w3 := HM2.out.trans (Many.of_below S hb3)
  have hne := ringI_ne hR hs3 (by decide) (by decide)
  have hs4 := hs3.put 2 (.pointer (some ⟨r, 0, none⟩))
  have hR4 := hR.away (Ne.symm hne.1) (Ne.symm hne.2) 2 (.pointer (some ⟨r, 0, none⟩))
  have hm4 := hm3.store HP.out.1 2 (.pointer (some ⟨r, 0, none⟩))
  have k2 := hs3.cell 2
  have g2 := hs3.warm 2
  have hlt3 := hs3.lt
  obtain ⟨W4, hW4⟩ : ∃ W4, W4 = w3.setCell ⟨p, 2, none⟩ (.pointer (some ⟨r, 0, none⟩)) := ⟨_, rfl⟩
  rw [← hW4] at hs4 hR4 hm4
  have hs4 : Sits W4 p 31 #[.int .i64 (c.now + y), .int .i64 ((c.real : Int) + 1), .pointer (some ⟨r, 0, none⟩), .bool b] := hs4
  have HIN := Lib.hid (inBound_any r g hR4 HEL.out)
  have hsr : S r ∧ S g := ⟨HP.out.2 r (Nat.le_trans HM2.out.size hr1), HP.out.2 g (Nat.le_trans HM2.out.size hg1)⟩
  have HEND : Hid (∀ W5, Below W4.heap.size W4 W5 → CK p ⟨c.now + y, c.real + 1, L', b || !inB L'⟩ S (W5.setCell ⟨p, 3, none⟩ (.bool (b || !inB L'))) ∧ Many S w (W5.setCell ⟨p, 3, none⟩ (.bool (b || !inB L'))) ∧ (W5.setCell ⟨p, 3, none⟩ (.bool (b || !inB L'))).cell? ⟨p, 0, none⟩ = some (.int .i64 (c.now + y))) := Lib.hid fun W5 hb5 => by
    have hs5 := hs4.below' hb5
    have hs6 := hs5.put 3 (.bool (b || !inB L'))
    have hR5 := hR4.below hb5
    have hR6 := hR5.away (Ne.symm hne.1) (Ne.symm hne.2) 3 (.bool (b || !inB L'))
    exact ⟨⟨some ⟨r, 0, none⟩, hs6, .inr ⟨r, g, rfl, hR6, hsr.1, hsr.2⟩, HP.out.1, HOK.out⟩, (hm4.trans (Many.of_below S hb5)).store HP.out.1 3 _, hs6.cell 0⟩
  have HS4 := Lib.hid hs4
  have HW4 := Lib.hid hW4
  clear c0 c1 c2 c3 f0 f1 f2 f3 hs3 hm3 hne hs4 hR4 hm4 hR hr1 hg1 hb3 hsr HEL HF ew0 ew1 hlt hr hW4 hW2
  cases b with
  | true =>
    have n3 := HS4.out.cell 3
    have m3 := HS4.out.warm 3
    have hlt4 := HS4.out.lt
    obtain ⟨e1, e2, e3⟩ := HEND.out W4 (Below.refl _ _)
    rw [HW4.out] at n3 m3 hlt4 e1 e2 e3
    simp only [Bool.true_or] at e1 e2 e3
    have E1 := Lib.hid e1
    have E2 := Lib.hid e2
    clear e1 e2
    go_wp2
    go_ret
    exact ⟨rfl, E1.out, E2.out⟩
  | false =>
    have n2 := HS4.out.cell 2
    have n3 := HS4.out.cell 3
    have hlt4 := HS4.out.lt
    rw [HW4.out] at n2 n3 hlt4
    go_wp2_with fail
    rw [← HW4.out]
    refine HIN.out.mono ?_
    rintro e w5 ⟨rfl, hb5⟩
    have m3 := (HS4.out.below' hb5).warm 3
    have n3' := (HS4.out.below' hb5).cell 3
    have hlt5 := (HS4.out.below' hb5).lt
    obtain ⟨e1, e2, e3⟩ := HEND.out w5 hb5
    simp only [Bool.false_or] at e1 e2 e3
    have E1 := Lib.hid e1
    have E2 := Lib.hid e2
    clear e1 e2 n2 n3 hlt4
    obtain ⟨b2, hb2⟩ : ∃ b2, b2 = inB L' := ⟨_, rfl⟩
    have HB2 := Lib.hid hb2
    rw [← hb2] at e3 ⊢
    clear hb2
    go_wp2
    go_ret
    have hb2 := HB2.out
    subst hb2
    exact ⟨rfl, E1.out, E2.out⟩
end
end Go.Proofs.Ytbgogbelnipfdaa
