/- Package heap: the items of a pile of int rise and sink. -/
import Derived.Test.YtfjpoadmbdjmnaaGreatHeapI
namespace Go.Proofs.YtfjpoadmbdjmnaaGreat
open Go Go.RowKit Go.Maps HeapP
set_option maxRecDepth 100000
set_option maxHeartbeats 1000000
set_option linter.unusedSimpArgs false

theorem half_i64 (j : Nat) (h : 0 < j) (hs : j ≤ 1000000) : IntKind.i64.wrap ((j : Int) - 1) = ((j - 1 : Nat) : Int) := by rw [IntWalk.i64_in _ (by omega)]; omega
theorem riseI_any (p g m cap : Nat) (l : List (HeapP.It Int)) (D : DataW Unit) (n : Nat) (last : Int) (k : Nat) (x : HeapP.It Int) (B : HeapP.It Int → Prop) (w : World) (h : PileI w p g m cap l D n last) (hH : Hole l D k x B) (hx : gt l k = x)
    (hid : ∀ y, B y → -9223372036854775808 ≤ y.id ∧ y.id ≤ 9223372036854775807) (hs : l.length ≤ 1000000) (hn : n + k + 1 < maxLen) :
    Calls Tryz.prog 87 #[.pointer (some ⟨p, 0, none⟩), .int .i64 k] w fun e w' => ∃ k' l' D', e = .returned (.int .i64 (k' : Nat)) ∧ PileI w' p g m cap l' D' (n + k + 1) last ∧ l'.length = l.length ∧ Hole l' D' k' x B ∧
      gt l' k' = x ∧ (0 < k' → le (gt l' ((k' - 1) / 2)) x) ∧ (Down l k x → Full l' D' B) ∧ Many (Tri p g m) w w' := by
  have hkl := hH.lt
  have d0 := h.at hkl (j := 0) rfl
  have d1 := h.at hkl (j := 1) rfl
  have d2 := h.at hkl (j := 2) rfl
  rw [hx] at d0 d1 d2
  simp only [Nat.add_zero] at d0
  have c1 := h.sits.cell 1
  simp at c1
  have h1 := h.below ((Below.refl _ _).alloc (Nat.le_refl _) (.cells #[.int .i64 x.t, .int .i64 x.id, (Value.int .i64 (x.v))] 71))
  have s0 : Sits (w.alloc (.cells #[.int .i64 x.t, .int .i64 x.id, (Value.int .i64 (x.v))] 71)) w.heap.size 71 #[.int .i64 x.t, .int .i64 x.id, (Value.int .i64 (x.v))] := Sits.fresh w _ _
  obtain ⟨w1, hw1⟩ : ∃ w1, w1 = w.alloc (.cells #[.int .i64 x.t, .int .i64 x.id, (Value.int .i64 (x.v))] 71) := ⟨_, rfl⟩
  obtain ⟨q, hq⟩ : ∃ q, q = w.heap.size := ⟨_, rfl⟩
  have ht : ¬ Tri p g m q := by obtain ⟨a1, a2, a3⟩ := h.lt; unfold Tri; omega
  have hm1 : Many (Tri p g m) w w1 := hw1 ▸ (Many.refl _ w).alloc _
  rw [← hw1] at h1 s0
  rw [← hq] at s0
  have H1 := Lib.hid h1
  have S0 := Lib.hid s0
  have HT := Lib.hid ht
  have HM1 := Lib.hid hm1
  have HH := Lib.hid hH
  have HX := Lib.hid hx
  have HID := Lib.hid hid
  have HS := Lib.hid hs
  have HN := Lib.hid hn
  have HKL := Lib.hid hkl
  clear h hH hx hid hs hn h1 s0 ht hm1
  go_enter Tryz.func87, Tryz.ntmps87
  go_wp2_with fail
  rw [← hw1, ← hq]
  clear hw1 hq d0 d1 d2 c1 hkl
  go_loopw [1, 6] (fun kv av wr => ∃ (j : Nat) (l' : List (HeapP.It Int)) (D' : DataW Unit), kv = .int .i64 j ∧ j ≤ k ∧ PileI wr p g m cap l' D' (n + (k - j)) last ∧ l'.length = l.length ∧ Hole l' D' j x B ∧ (Down l k x → Down l' j x) ∧
    Sits wr q 71 #[.int .i64 x.t, .int .i64 x.id, (Value.int .i64 (x.v))] ∧ Many (Tri p g m) w wr) (fun kv _ _ => (intOf kv).toNat)
  case atStart => exact ⟨k, l, D, rfl, Nat.le_refl _, H1.out.mono (by omega), rfl, HH.out, id, S0.out, HM1.out⟩
  case round =>
    obtain ⟨j, l', D', rfl, hjk, hP, hll, hH, hD, hS, hM⟩ := hrel
    have HP := Lib.hid hP
    have HL := Lib.hid hll
    have HO := Lib.hid hH
    have HD := Lib.hid hD
    have HSQ := Lib.hid hS
    have HM := Lib.hid hM
    have HJK := Lib.hid hjk
    have hlt := hH.lt
    have q0 := hS.cell 0
    have q1 := hS.cell 1
    have q2 := hS.cell 2
    simp at q0 q1 q2
    clear hP hll hH hD hS hM H1 S0 HM1
    rcases Nat.eq_zero_or_pos j with h0 | h0
    · subst h0
      clear hlt hjk
      go_wp2_with fail
      refine (setI_any p g m cap l' D' _ last 0 x _ HP.out HO.out.lt (HID.out x ((HO.out.mem x).2 (.inl rfl))) (by have := HN.out; omega)).mono ?_
      rintro e w4 ⟨rfl, hP4, hM4⟩
      go_wp2
      go_ret
      exact ⟨0, _, _, rfl, hP4.mono (by have := HJK.out; omega), by rw [List.length_set, HL.out], HO.out.set, gt_same _ _ HO.out.lt, fun h => absurd h (by omega), fun hd => HO.out.close (fun h => absurd h (by omega)) (HD.out hd), HM.out.trans hM4⟩
    · have hs' := HS.out
      have hll := HL.out
      have e1 : decide ((0 : Int) < (j : Int)) = true := by simp; omega
      have e2 := half_i64 j h0 (by omega)
      obtain ⟨a, ha⟩ : ∃ a, a = (j - 1) / 2 := ⟨_, rfl⟩
      have e3 : (((j - 1 : Nat) : Int)).tdiv 2 = (a : Int) := by rw [ha]; simp [Int.tdiv_eq_ediv_of_nonneg]
      have e4 : wrap64 (a : Int) = (a : Int) := IntWalk.wrap64_in _ (by omega)
      have hal : a < l'.length := by omega
      have a0 := HP.out.at hal (j := 0) rfl
      have a1 := HP.out.at hal (j := 1) rfl
      have a2 := HP.out.at hal (j := 2) rfl
      have c1 := HP.out.sits.cell 1
      simp at a0 c1
      obtain ⟨y, hy⟩ : ∃ y, y = gt l' a := ⟨_, rfl⟩
      rw [← hy] at a0 a1 a2
      have HY := Lib.hid hy
      have HA := Lib.hid ha
      have H0 := Lib.hid h0
      clear hs' hll hy ha h0 hlt hjk
      go_wp2_with fail
      go_still_tail 8, (by kernel_rfl)
      change wpList _ _ _ _ _ wr.drew
      obtain ⟨w2, hw2⟩ : ∃ w2, w2 = wr.drew := ⟨_, rfl⟩
      rw [← hw2]
      have HW2 := Lib.hid hw2
      clear hw2
      go_wp2_with fail
      refine (compareI_any y x w2).mono ?_
      rintro e w3 ⟨rfl, hw3⟩
      have hB3 : Below wr.heap.size wr w3 := by
        obtain ⟨qn, os, rfl⟩ := hw3
        rw [HW2.out, World.drewN_drew]
        exact below_grow wr _ os
      clear hw3 c1 a0 a1 a2 q0 q1 q2
      have hP3 := HP.out.below hB3
      have hS3 := HSQ.out.below' hB3
      have hM3 := HM.out.then hB3
      have HP3 := Lib.hid hP3
      have HS3 := Lib.hid hS3
      have HM3 := Lib.hid hM3
      have a0 := hP3.at hal (j := 0) rfl
      have a1 := hP3.at hal (j := 1) rfl
      have a2 := hP3.at hal (j := 2) rfl
      rw [← HY.out] at a0 a1 a2
      have c1 := hP3.sits.cell 1
      have q0 := hS3.cell 0
      have q1 := hS3.cell 1
      have q2 := hS3.cell 2
      simp at a0 c1 q0 q1 q2
      clear hP3 hS3 hM3 hB3
      cases hc : decide (HeapP.cf y x < 0)
      · have hle : le x y := lt_of (by simpa using hc)
        have HLE := Lib.hid hle
        clear hle
        go_wp2_with fail
        refine (setI_any p g m cap l' D' _ last j y _ HP3.out HO.out.lt (HID.out y ((HO.out.mem y).2 (.inr ⟨a, hal, by have := HA.out; have := H0.out; omega, HY.out.symm⟩))) (by have := HN.out; omega)).mono ?_
        rintro e w4 ⟨rfl, hP4, hM4⟩
        have HP4 := Lib.hid hP4
        have HM4 := Lib.hid (HM3.out.trans hM4)
        have HS4 := Lib.hid (HS3.out.many hM4 HT.out)
        clear hP4 hM4
        go_wp2
        go_roundw
        case rel =>
          have hu := HO.out.up H0.out
          have hdn := HO.out.ho.up_down (x := x) H0.out HO.out.lt (by rw [← HA.out, ← HY.out]; exact HLE.out)
          rw [← HA.out, ← HY.out] at hu hdn
          exact ⟨a, l'.set j y, _, rfl, by have := HJK.out; have := HA.out; omega, HP4.out.mono (by have := HJK.out; have := HA.out; have := H0.out; omega), by rw [List.length_set, HL.out], hu, fun _ => hdn, HS4.out, HM4.out⟩
        case measure => simp [intOf]; have := HA.out; have := H0.out; omega
      · have hle : le y x := lt_le ((cf_neg y x).1 (by simpa using hc))
        have HLE := Lib.hid hle
        clear hle
        go_wp2_with fail
        refine (setI_any p g m cap l' D' _ last j x _ HP3.out HO.out.lt (HID.out x ((HO.out.mem x).2 (.inl rfl))) (by have := HN.out; omega)).mono ?_
        rintro e w4 ⟨rfl, hP4, hM4⟩
        go_wp2
        go_ret
        have hu : 0 < j → le (gt l' ((j - 1) / 2)) x := fun _ => by rw [← HA.out, ← HY.out]; exact HLE.out
        exact ⟨j, _, _, rfl, hP4.mono (by have := HJK.out; omega), by rw [List.length_set, HL.out], HO.out.set, gt_same _ _ HO.out.lt, fun h => by rw [gt_other _ _ (by omega)]; exact hu h, fun hd => HO.out.close hu (HD.out hd), HM3.out.trans hM4⟩

theorem lowest_least {α : Type} [Inhabited α] (l : List (HeapP.It α)) (k b : Nat) (hb : b = if 2 * k + 2 < l.length ∧ HeapP.cf (gt l (2 * k + 2)) (gt l (2 * k + 1)) < 0 then 2 * k + 2 else 2 * k + 1) :
    (b < l.length → Least l k b) ∧ (¬ b < l.length → ∀ y : HeapP.It α, Down l k y) ∧ k < b := by
  have key : ∀ i, 0 < i → (i - 1) / 2 = k → i = 2 * k + 1 ∨ i = 2 * k + 2 := fun i h0 h => by omega
  by_cases h : 2 * k + 2 < l.length ∧ HeapP.cf (gt l (2 * k + 2)) (gt l (2 * k + 1)) < 0
  · rw [if_pos h] at hb
    subst hb
    refine ⟨fun hl => ⟨by omega, by omega, fun i i0 il ip => ?_⟩, fun hn => absurd h.1 hn, by omega⟩
    rcases key i i0 ip with rfl | rfl
    · exact lt_le ((cf_neg _ _).1 h.2)
    · exact le.refl _
  · rw [if_neg h] at hb
    subst hb
    refine ⟨fun hl => ⟨by omega, by omega, fun i i0 il ip => ?_⟩, fun hn y i i0 il ip => ?_, by omega⟩
    · rcases key i i0 ip with rfl | rfl
      · exact le.refl _
      · exact lt_of fun hc => h ⟨il, hc⟩
    · rcases key i i0 ip with rfl | rfl
      · exact absurd il hn
      · omega
theorem sinkI_any (p g m cap : Nat) (l : List (HeapP.It Int)) (D : DataW Unit) (n : Nat) (last : Int) (k : Nat) (x : HeapP.It Int) (B : HeapP.It Int → Prop) (w : World) (h : PileI w p g m cap l D n last) (hH : Hole l D k x B) (hx : gt l k = x)
    (hu : 0 < k → le (gt l ((k - 1) / 2)) x) (hid : ∀ y, B y → -9223372036854775808 ≤ y.id ∧ y.id ≤ 9223372036854775807) (hs : l.length ≤ 1000000) (hn : n + l.length + 1 < maxLen) :
    Calls Tryz.prog 88 #[.pointer (some ⟨p, 0, none⟩), .int .i64 k] w fun e w' => e = .returned (.tuple #[]) ∧ ∃ l' D', PileI w' p g m cap l' D' (n + l.length + 1) last ∧ l'.length = l.length ∧ Full l' D' B ∧ Many (Tri p g m) w w' := by
  have hkl := hH.lt
  have d0 := h.at hkl (j := 0) rfl
  have d1 := h.at hkl (j := 1) rfl
  have d2 := h.at hkl (j := 2) rfl
  rw [hx] at d0 d1 d2
  simp only [Nat.add_zero] at d0
  have c1 := h.sits.cell 1
  simp at c1
  have h1 := h.below ((Below.refl _ _).alloc (Nat.le_refl _) (.cells #[.int .i64 x.t, .int .i64 x.id, (Value.int .i64 (x.v))] 71))
  have s0 : Sits (w.alloc (.cells #[.int .i64 x.t, .int .i64 x.id, (Value.int .i64 (x.v))] 71)) w.heap.size 71 #[.int .i64 x.t, .int .i64 x.id, (Value.int .i64 (x.v))] := Sits.fresh w _ _
  obtain ⟨w1, hw1⟩ : ∃ w1, w1 = w.alloc (.cells #[.int .i64 x.t, .int .i64 x.id, (Value.int .i64 (x.v))] 71) := ⟨_, rfl⟩
  obtain ⟨q, hq⟩ : ∃ q, q = w.heap.size := ⟨_, rfl⟩
  have ht : ¬ Tri p g m q := by obtain ⟨a1, a2, a3⟩ := h.lt; unfold Tri; omega
  have hm1 : Many (Tri p g m) w w1 := hw1 ▸ (Many.refl _ w).alloc _
  rw [← hw1] at h1 s0
  rw [← hq] at s0
  have H1 := Lib.hid h1
  have S0 := Lib.hid s0
  have HT := Lib.hid ht
  have HM1 := Lib.hid hm1
  have HH := Lib.hid hH
  have HU := Lib.hid hu
  have HID := Lib.hid hid
  have HS := Lib.hid hs
  have HN := Lib.hid hn
  clear h hH hx hu hid hs hn h1 s0 ht hm1
  go_enter Tryz.func88, Tryz.ntmps88
  go_wp2_with fail
  rw [← hw1, ← hq]
  clear hw1 hq d0 d1 d2 c1 hkl
  go_loopw [1, 5] (fun kv av wr => ∃ (j : Nat) (l' : List (HeapP.It Int)) (D' : DataW Unit), kv = .int .i64 j ∧ PileI wr p g m cap l' D' (n + j) last ∧ l'.length = l.length ∧ Hole l' D' j x B ∧ (0 < j → le (gt l' ((j - 1) / 2)) x) ∧
    Sits wr q 71 #[.int .i64 x.t, .int .i64 x.id, (Value.int .i64 (x.v))] ∧ Many (Tri p g m) w wr) (fun kv _ _ => l.length - (intOf kv).toNat)
  case atStart => exact ⟨k, l, D, rfl, H1.out.mono (by omega), rfl, HH.out, HU.out, S0.out, HM1.out⟩
  case round =>
    obtain ⟨j, l', D', rfl, hP, hll, hH, hU, hS, hM⟩ := hrel
    have hs' := HS.out
    have hlt := hH.lt
    obtain ⟨b, hb⟩ : ∃ b, b = lowestI l' j := ⟨_, rfl⟩
    have hleast := lowest_least l' j b hb
    have HP := Lib.hid hP
    have HL := Lib.hid hll
    have HO := Lib.hid hH
    have HU1 := Lib.hid hU
    have HSQ := Lib.hid hS
    have HM := Lib.hid hM
    have HB := Lib.hid hb
    have HLE := Lib.hid hleast
    have hj : j < l.length := by omega
    have HJ := Lib.hid hj
    have hls : l'.length ≤ 1000000 := by omega
    have HLS := Lib.hid hls
    clear hP hll hH hU hS hM hs' hlt hb hleast hj hls H1 S0 HM1
    go_wp2_with fail
    refine (belowI_any p g m cap l' D' _ last j b _ HP.out HO.out.lt HLS.out HB.out).mono ?_
    rintro e w2 ⟨rfl, hw2⟩
    have hB2 : Below wr.heap.size wr w2 := by
      obtain ⟨qn, os, rfl⟩ := hw2
      exact below_grow wr _ os
    clear hw2
    have hP2 := HP.out.below hB2
    have hS2 := HSQ.out.below' hB2
    have hM2 := HM.out.then hB2
    have HP2 := Lib.hid hP2
    have HS2 := Lib.hid hS2
    have HM2 := Lib.hid hM2
    have c1 := hP2.sits.cell 1
    have q0 := hS2.cell 0
    have q1 := hS2.cell 1
    have q2 := hS2.cell 2
    simp at c1 q0 q1 q2
    clear hP2 hS2 hM2 hB2
    by_cases hbl : b < l'.length
    · have b0 := HP2.out.at hbl (j := 0) rfl
      have b1 := HP2.out.at hbl (j := 1) rfl
      have b2 := HP2.out.at hbl (j := 2) rfl
      simp only [Nat.add_zero] at b0
      obtain ⟨y, hy⟩ : ∃ y, y = gt l' b := ⟨_, rfl⟩
      rw [← hy] at b0 b1 b2
      have HY := Lib.hid hy
      have i1 : decide (l'.length ≤ b) = false := by simp; omega
      have i2 : decide (b ≥ l'.length) = false := by simp; omega
      clear hy
      go_wp2_with fail
      go_still_tail 16, (by kernel_rfl)
      change wpList _ _ _ _ _ w2.drew
      obtain ⟨w3, hw3⟩ : ∃ w3, w3 = w2.drew := ⟨_, rfl⟩
      rw [← hw3]
      have HW3 := Lib.hid hw3
      clear hw3
      go_wp2_with fail
      refine (compareI_any x y w3).mono ?_
      rintro e w4 ⟨rfl, hw4⟩
      have hB4 : Below w2.heap.size w2 w4 := by
        obtain ⟨qn, os, rfl⟩ := hw4
        rw [HW3.out, World.drewN_drew]
        exact below_grow w2 _ os
      clear hw4 c1 b0 b1 b2 q0 q1 q2
      have hP4 := HP2.out.below hB4
      have hS4 := HS2.out.below' hB4
      have HP4 := Lib.hid hP4
      have HS4 := Lib.hid hS4
      have HM4 := Lib.hid (HM2.out.then hB4)
      have b0 := hP4.at hbl (j := 0) rfl
      have b1 := hP4.at hbl (j := 1) rfl
      have b2 := hP4.at hbl (j := 2) rfl
      rw [← HY.out] at b0 b1 b2
      have c1 := hP4.sits.cell 1
      have q0 := hS4.cell 0
      have q1 := hS4.cell 1
      have q2 := hS4.cell 2
      simp at b0 c1 q0 q1 q2
      clear hP4 hS4 hB4
      cases hc : decide (HeapP.cf x y < 0)
      · have hle : le y x := lt_of (by simpa using hc)
        have HLE2 := Lib.hid hle
        clear hle
        go_wp2_with fail
        refine (setI_any p g m cap l' D' _ last j y _ HP4.out HO.out.lt (HID.out y ((HO.out.mem y).2 (.inr ⟨b, hbl, by have := HLE.out.2.2; omega, HY.out.symm⟩))) (by have := HN.out; have := HJ.out; omega)).mono ?_
        rintro e w5 ⟨rfl, hP5, hM5⟩
        have HP5 := Lib.hid hP5
        have HM5 := Lib.hid (HM4.out.trans hM5)
        have HS5 := Lib.hid (HS4.out.many hM5 HT.out)
        clear hP5 hM5
        go_wp2
        go_roundw
        case rel =>
          have hd := HO.out.down hbl (HLE.out.1 hbl)
          rw [← HY.out] at hd
          exact ⟨b, l'.set j y, _, rfl, HP5.out.mono (by have := HLE.out.2.2; omega), by rw [List.length_set, HL.out], hd, fun _ => by rw [(HLE.out.1 hbl).1, gt_same _ _ HO.out.lt]; exact HLE2.out, HS5.out, HM5.out⟩
        case measure => simp [intOf]; have := HLE.out.2.2; have := HL.out; omega
      · have hle : le x y := lt_le ((cf_neg x y).1 (by simpa using hc))
        have HLE2 := Lib.hid hle
        clear hle
        go_wp2_with fail
        refine (setI_any p g m cap l' D' _ last j x _ HP4.out HO.out.lt (HID.out x ((HO.out.mem x).2 (.inl rfl))) (by have := HN.out; have := HJ.out; omega)).mono ?_
        rintro e w5 ⟨rfl, hP5, hM5⟩
        go_wp2
        go_returns
        refine ⟨rfl, _, _, hP5.mono (by have := HJ.out; omega), by rw [List.length_set, HL.out], HO.out.close HU1.out fun i i0 il ip => ?_, HM4.out.trans hM5⟩
        have := (HLE.out.1 hbl).2.2 i i0 il ip
        rw [← HY.out] at this
        exact HLE2.out.trans this
    · have i1 : decide (l'.length ≤ b) = true := by simp; omega
      have i2 : decide (b ≥ l'.length) = true := by simp; omega
      go_wp2_with fail
      go_quiet (fail)
      go_wp2_with fail
      refine (setI_any p g m cap l' D' _ last j x _ (HP2.out.drewN _) HO.out.lt (HID.out x ((HO.out.mem x).2 (.inl rfl))) (by have := HN.out; have := HJ.out; omega)).mono ?_
      rintro e w5 ⟨rfl, hP5, hM5⟩
      go_wp2
      go_returns
      exact ⟨rfl, _, _, hP5.mono (by have := HJ.out; omega), by rw [List.length_set, HL.out], HO.out.close HU1.out (HLE.out.2.1 hbl x), (HM2.out.drewN _).trans hM5⟩

end Go.Proofs.YtfjpoadmbdjmnaaGreat
