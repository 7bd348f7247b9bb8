/- Package ring: what New and Push of a Ring[int] answer and leave. -/
import Derived.Test.YtbgogbelnipfdaaRingCI
namespace Go.Proofs.Ytbgogbelnipfdaa
open Go Go.RowKit
set_option maxRecDepth 100000
set_option maxHeartbeats 1000000
set_option linter.unusedSimpArgs false

theorem growI_any (p g room : Nat) (l : List Int) (w : World) (h : RingI w p g room l) (hroom : l.length < room) :
    Calls Try.prog 28 #[.pointer (some ⟨p, 0, none⟩)] w fun e w' => e = .returned (.tuple #[]) ∧ ∃ g', (g' = g ∨ w.heap.size ≤ g') ∧ (∃ n first, RingCI w' p g' room n first l ∧ l.length < n) ∧ Two p g w w' := by
  rcases h with ⟨rfl, rfl, h3, h4⟩ | ⟨n, f, h⟩
  · refine (growI_full g g room [] _ _ none rfl w (.inl ⟨rfl, rfl, h3, h4⟩) h4 hroom).mono ?_
    rintro e w' ⟨he, ⟨n, h5, h6⟩, h7⟩
    exact ⟨he, _, .inr (Nat.le_refl _), ⟨n, 0, h5, h6⟩, h7⟩
  · by_cases hl : l.length < n
    · refine (growI_room p g room n f l w h hl).mono ?_
      rintro e w' ⟨he, k, rfl⟩
      exact ⟨he, _, .inl rfl, ⟨n, f, h.drewN k, hl⟩, (Two.refl p g w).drewN k⟩
    · have hn : n = l.length := by have := h.len_le; omega
      have hs := h.sits
      have hr := RingI.intro h
      rw [hn] at hs
      refine (growI_full p g room l _ _ (some ⟨g, 0, none⟩) rfl w hr hs hroom).mono ?_
      rintro e w' ⟨he, ⟨n, h5, h6⟩, h7⟩
      exact ⟨he, _, .inr (Nat.le_refl _), ⟨n, 0, h5, h6⟩, h7⟩
theorem RingCI.pushed {w : World} {p g room n first : Nat} {l : List Int} (h : RingCI w p g room n first l) (hl : l.length < n) (x : Int) (a : Nat) :
    RingI (((w.drewN a).setCell ⟨g, (first + l.length) % n, none⟩ (Value.int .i64 x)).setCell ⟨p, 3, none⟩ (.int .i64 ((l.length : Int) + 1))) p g room (l ++ [x]) := by
  have hne := h.ne
  have hle := h.n_le
  obtain ⟨cur, hg, hz, hc⟩ := h.cells
  have hf := h.first_lt
  have hlen : ((l.length : Int) + 1) = ((l ++ [x]).length : Int) := by simp
  rw [hlen]
  refine .inr ⟨n, first, ⟨((h.sits.drewN a).away (p := ⟨g, (first + l.length) % n, none⟩) (Ne.symm hne) (Value.int .i64 x)).put 3 _, hf, hle, by simp; omega, h.small, _, ((hg.drewN a).put ((first + l.length) % n) (Value.int .i64 x)).away (p := ⟨p, 3, none⟩) hne _, by simp [hz], fun i hi => ?_⟩⟩
  simp only [List.length_append, List.length_singleton] at hi
  rw [Array.getElem?_setIfInBounds]
  by_cases e : i = l.length
  · subst e
    have hlt : (first + l.length) % n < cur.size := by rw [hz]; exact Nat.mod_lt _ (by omega)
    simp [hlt]
  · have hil : i < l.length := by omega
    have e2 : (first + l.length) % n ≠ (first + i) % n := by
      intro e3
      rcases Nat.lt_or_ge (first + i) n with h1 | h1
      · rcases Nat.lt_or_ge (first + l.length) n with h2 | h2
        · rw [Nat.mod_eq_of_lt h1, Nat.mod_eq_of_lt h2] at e3; omega
        · rw [Nat.mod_eq_of_lt h1, Nat.mod_eq_sub_mod h2, Nat.mod_eq_of_lt (by omega)] at e3; omega
      · rw [Nat.mod_eq_sub_mod h1, Nat.mod_eq_sub_mod (show n ≤ first + l.length by omega), Nat.mod_eq_of_lt (by omega), Nat.mod_eq_of_lt (by omega)] at e3; omega
    rw [if_neg e2, hc i hil]
    simp [List.getElem_append, hil]
theorem bounded_anyI (k : Int) (w : World) (m : Nat) (hm : m = min k.toNat 100000) :
    Calls Try.prog 27 #[.int .i64 k] w fun e w' => e = .returned (.int .i64 m) ∧ w = w' := by
  obtain ⟨q, hq⟩ : ∃ q : Nat, q = k.toNat := ⟨_, rfl⟩
  have HX : Hid (max k 0 = (q : Int)) := Lib.hid (by omega)
  have HM : Hid (min (q : Int) 100000 = (m : Int)) := Lib.hid (by omega)
  clear hq hm
  go_enter Try.func27, Try.ntmps27
  go_wp2_with (first | ((with_reducible refine at_list ?_); refine wpList_max_eq rfl (.tmp 3) (.const (.int .i64 0)) _ rfl _ _ _ _ _ rfl rfl HX.out ?_) | ((with_reducible refine at_list ?_); refine wpList_min_eq rfl (.tmp 4) (.const (.int .i64 100000)) _ rfl _ _ _ _ _ rfl rfl HM.out ?_))
  go_ret
  exact ⟨rfl, rfl⟩
theorem newI_any (k : Int) (w : World) (m : Nat) (hm : m = min k.toNat 100000) :
    Calls Try.prog 22 #[.int .i64 k] w fun e w' => e = .returned (.pointer (some ⟨w.heap.size, 0, none⟩)) ∧ RingI w' w.heap.size w.heap.size m [] ∧ Below w.heap.size w w' := by
  have HM := Lib.hid hm
  clear hm
  go_enter Try.func22, Try.ntmps22
  go_wp2_with fail
  refine (bounded_anyI k w m HM.out).mono ?_
  rintro e w' ⟨rfl, rfl⟩
  go_wp2
  go_ret
  exact ⟨rfl, .inl ⟨rfl, rfl, by have := HM.out; omega, Sits.fresh w _ _⟩, (Below.refl w.heap.size w).alloc (Nat.le_refl _) _⟩

theorem pushI_any (p g room : Nat) (l : List Int) (xs : List Int) (A : Option Addr) (cap m : Nat) (hm : m = min xs.length (room - l.length)) (w : World) (h : RingI w p g room l)
    (hx : SliceAt 1 (fun x => [(Value.int .i64 x)]) w (.slice A xs.length cap) xs) (hA : ∀ b o, 0 < xs.length → A = some ⟨b, o, none⟩ → b ≠ p ∧ b ≠ g) :
    Calls Try.prog 23 #[.pointer (some ⟨p, 0, none⟩), .slice A xs.length cap] w fun e w' => e = .returned (.int .i64 m) ∧ ∃ g', (g' = g ∨ w.heap.size ≤ g') ∧ RingI w' p g' room (l ++ xs.take m) ∧ Two p g w w' := by
  obtain ⟨h1, h2, _⟩ := h.head
  obtain ⟨A', cap', e0, hc1, hc2, hat⟩ := hx
  simp only [Value.slice.injEq, true_and] at e0
  obtain ⟨rfl, rfl⟩ := e0
  have hm1 : m ≤ xs.length := by omega
  have hm2 : m ≤ room - l.length := by omega
  have HH := Lib.hid h
  have HM : Hid (min (xs.length : Int) ((room : Int) - (l.length : Int)) = (m : Int)) := Lib.hid (by omega)
  have HAT := Lib.hid hat
  have HA := Lib.hid hA
  have H12 := Lib.hid (And.intro (And.intro h1 h2) (And.intro hm1 hm2))
  have dm : decide ((m : Int) ≤ (cap : Int)) = true := by simp; omega
  have dm2 : (m : Int) ≤ (cap : Int) := by omega
  have dm3 : (m : Int) ≤ 100000 := by omega
  have hxl : (xs.length : Int) ≤ 9223372036854775807 := by omega
  clear h h1 h2 hat hA hm hm1 hm2
  go_enter Try.func23, Try.ntmps23
  go_wp2_with (first | (go_at_call 25; refine (roomI_any p g room l w HH.out).mono ?_; rintro e w' ⟨rfl, nr, rfl⟩) | ((with_reducible refine at_list ?_); refine wpList_min_eq rfl (.tmp 9) (.tmp 11) _ rfl _ _ _ _ _ rfl rfl HM.out ?_))
  go_loopw [17] (fun i wr => ∃ k : Nat, k ≤ m ∧ i = .int .i64 k ∧ ∃ gk, (gk = g ∨ w.heap.size ≤ gk) ∧ RingI wr p gk room (l ++ xs.take k) ∧ Two p g w wr) (fun i _ => m - (intOf i).toNat)
  case atStart => exact ⟨0, by omega, rfl, g, .inl rfl, by simpa using HH.out.drewN _, (Two.refl p g w).drewN _⟩
  case round =>
    obtain ⟨k, hk, rfl, gk, hgk, hR, hT⟩ := hrel
    by_cases hlt : k < m
    · have hkx : k < xs.length := by have := H12.out; omega
      obtain ⟨b, o, rfl, hb, hat⟩ := HAT.out k hkx
      have hbp := HA.out b o (by omega) rfl
      have hlen : (l ++ xs.take k).length = l.length + k := by simp; omega
      have hroom : (l ++ xs.take k).length < room := by have := H12.out; omega
      have hca := hat 0 _ rfl
      rw [Nat.mul_one, Nat.add_zero] at hca
      obtain ⟨x, hx⟩ : ∃ x, x = xs[k] := ⟨_, rfl⟩
      rw [← hx] at hca
      have hcb : wr.cell? ⟨b, o + k, none⟩ = some (Value.int .i64 x) := by
        rw [← hca]
        exact World.cell?_of_block (hT.block b hb hbp.1 hbp.2)
      have htake : xs.take (k + 1) = xs.take k ++ [x] := by rw [hx]; simp
      have hL2 : l ++ xs.take (k + 1) = (l ++ xs.take k) ++ [x] := by rw [htake, List.append_assoc]
      generalize l ++ xs.take k = L at hR hroom hL2
      have HL2 := Lib.hid hL2
      have hL100 : (L.length : Int) ≤ 100000 := by have := H12.out; omega
      clear hat hca hx hlen htake hbp hL2
      have HR := Lib.hid hR
      have HT := Lib.hid hT
      have HRO := Lib.hid hroom
      have HGK := Lib.hid hgk
      clear hR hT hroom hgk
      go_wp2_with (go_at_call 28; refine (growI_any p gk room _ _ HR.out HRO.out).mono ?_; rintro e w1 ⟨rfl, g2, hg2, ⟨n, first, hC, hln⟩, hT2⟩)
      have HT3 := Lib.hid (HT.out.trans hT2 (by rcases HGK.out with rfl | h; · exact .inl rfl
                                                · exact .inr h))
      have hgk3 : g2 = g ∨ w.heap.size ≤ g2 := by
        have := HT.out.size
        rcases hg2 with rfl | h
        · exact HGK.out
        · exact .inr (by omega)
      have HGK3 := Lib.hid hgk3
      have HTF := Lib.hid (fun a => HT3.out.trans ((((Two.refl p g2 w1).drewN a).store2 ((first + L.length) % n) (Value.int .i64 x)).store1 3 (.int .i64 ((L.length : Int) + 1))) hgk3)
      have c1 := hC.sits.cell 1
      have c3 := hC.sits.cell 3
      have f3 := hC.sits.warm 3
      have hne := hC.ne
      have hs := hC.small
      have hn := hC.n_le
      obtain ⟨cur, hg, hz, _⟩ := hC.cells
      obtain ⟨q, hq⟩ : ∃ q, q = (first + L.length) % n := ⟨_, rfl⟩
      have hqn : q < n := by rw [hq]; exact Nat.mod_lt _ (by omega)
      have cg : w1.cell? ⟨g2, q, none⟩ = some cur[q] := by rw [hg.cell q]; simp [hz, hqn]
      have fg := hg.warm q
      generalize cur[q] = old at cg
      have hp := fun a => hC.pushed hln x a
      rw [← hq] at hp HTF
      have HP := Lib.hid hp
      have HQ := Lib.hid hq
      have HC := Lib.hid hC
      have HLK : Hid (L.length ≤ 100000) := Lib.hid (by omega)
      have hn2 : (n : Int) ≤ 100000 := by omega
      have hqn2 : (q : Int) < (n : Int) := by omega
      clear hC hs hn hg hz hq hp hg2 hT2 hgk3 hln
      go_region_with (refine (cellI_any p g2 room n first L L.length _ (HC.out.drewN 1) HLK.out).mono ?_; rintro e w' ⟨rfl, nn, rfl⟩; rw [← HQ.out])
      all_goals go_wp2
      all_goals go_roundw
      all_goals first
        | exact ⟨k + 1, by omega, by go_num, g2, HGK3.out, by rw [HL2.out]; exact HP.out _, HTF.out _⟩
        | (simp [intOf]; omega)
    · have hkm : k = m := by omega
      subst hkm
      have HR := Lib.hid hR
      have HT := Lib.hid hT
      have HGK := Lib.hid hgk
      clear hR hT hgk
      go_wp2
      go_ret
      exact ⟨rfl, gk, HGK.out, HR.out, HT.out⟩
end Go.Proofs.Ytbgogbelnipfdaa
