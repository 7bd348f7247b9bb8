/- Package heap: an item goes out of a pile of int. -/
import Derived.Test.YtfjpoadmbdjmnaaGreatHeapCI
namespace Go.Proofs.YtfjpoadmbdjmnaaGreat
open Go Go.RowKit Go.Maps HeapP
set_option maxRecDepth 100000
set_option maxHeartbeats 1000000
set_option linter.unusedSimpArgs false

theorem PileI.take {w : World} {p g m cap n b : Nat} {l : List (HeapP.It Int)} {D : DataW Unit} {last : Int} (h : PileI w p g m cap l D n last) (hb : b ≤ l.length) :
    PileI (w.setCell ⟨p, 1, none⟩ (.slice (some ⟨g, 0, none⟩) b cap)) p g m cap (l.take b) D n last := by
  obtain ⟨n1, n2, n3⟩ := h.ne
  obtain ⟨cur, hc, h1, h2⟩ := h.row
  have hl : (l.take b).length = b := by simp; omega
  refine ⟨by rw [hl]; exact h.sits.put 1 _, ⟨cur, hc.away (p := ⟨p, 1, none⟩) n1 _, h1, fun i hi j u hu => ?_⟩, by have := h.len; omega, h.cap, h.map.setCell n2 _⟩
  rw [hl] at hi
  rw [gt_take _ hi] at hu
  exact h2 i (by omega) j u hu
theorem Tri.lo {p g m k lo : Nat} (h : Tri p g m k) (hp : lo ≤ p) (hg : lo ≤ g) (hm : lo ≤ m) : lo ≤ k := by unfold Tri at h; omega
theorem take_set {α : Type} (l : List α) (b : Nat) (x : α) : (l.set b x).take b = l.take b := by
  rw [List.take_set_of_le (Nat.le_refl b)]

theorem removeI_any (p lo g m cap : Nat) (l : List (HeapP.It Int)) (D : DataW Unit) (n : Nat) (last : Int) (L : List (HeapP.It Int)) (k : Nat) (w : World) (h : PileI w p g m cap l D n last) (hF : Full l D (· ∈ L)) (hk : k < l.length)
    (hid : ∀ y ∈ L, 1 ≤ y.id ∧ y.id ≤ last) (hlast : last ≤ 1000000) (hlen : l.length ≤ 500000) (hn : n + 1000002 < maxLen) (hp : lo ≤ p) (hg : lo ≤ g) (hm : lo ≤ m) (hlo : lo ≤ w.heap.size) :
    Calls Tryz.prog 21 #[.pointer (some ⟨p, 0, none⟩), .int .i64 k] w fun e w' => e = .returned (.tuple #[]) ∧ (∀ L', (∀ y, y ∈ L' ↔ y ∈ L ∧ y.id ≠ (gt l k).id) → PileFI w' p lo (n + 1000002) last L') ∧ ShyI w w' ∧ Below lo w w' := by
  obtain ⟨b, hb⟩ : ∃ b, l.length = b + 1 := ⟨l.length - 1, by omega⟩
  obtain ⟨x, hx⟩ : ∃ x, x = gt l k := ⟨_, rfl⟩
  obtain ⟨y, hy⟩ : ∃ y, y = gt l b := ⟨_, rfl⟩
  have hxb := hid x (hx ▸ (hF.mem _).2 ⟨k, hk, rfl⟩)
  have hyb := hid y (hy ▸ (hF.mem _).2 ⟨b, by omega, rfl⟩)
  have c1 := h.sits.cell 1
  have c2 := h.sits.cell 2
  have k1 := h.at hk (j := 1) rfl
  rw [← hx] at k1
  simp at c1 c2
  have e1 : IntKind.i64.wrap ((l.length : Int) - 1) = (b : Int) := by rw [IntWalk.i64_in _ (by omega)]; omega
  have hbl : b < l.length := by omega
  have hkey := key_of (id := x.id) (by omega)
  have P0 := Lib.hid h
  have HF := Lib.hid hF
  have HBL := Lib.hid hb
  have HX := Lib.hid hx
  have HY := Lib.hid hy
  have HXB := Lib.hid hxb
  have HYB := Lib.hid hyb
  have HID := Lib.hid hid
  have HLS := Lib.hid hlast
  have HLEN := Lib.hid hlen
  have HN := Lib.hid hn
  have HLO := Lib.hid (And.intro hp (And.intro hg (And.intro hm hlo)))
  clear h hF hb hx hy hxb hyb hid hlast hlen hn hp hg hm hlo
  go_enter Tryz.func21, Tryz.ntmps21
  go_wp2_with fail
  go_still_tail 12, (by kernel_rfl)
  change wpList _ _ _ _ _ w.drew
  have hmap := P0.out.map.drew
  refine wpList_delete_own _ rfl _ _ 73 3 rfl 3 keyed_int Tryz.underlying73 _ m n D (by simp [Act.eval]) hmap _ (key x.id) (by simp [Act.eval]) hkey ?_
  clear hmap c1 c2 k1
  intro w1 hown1 hturn1
  have hg1 : w.drew.grownBy w1 (some m) := hturn1.grown
  have hP1 := (P0.out.drewN 1).remap (w := w.drewN 1) hown1 hg1
  have hM1 : Many (Tri p g m) w w1 := ((Many.refl _ w).drewN 1).grown hg1 fun b hb => by simp at hb; exact .inr (.inr hb.symm)
  have P1 := Lib.hid hP1
  have M1 := Lib.hid hM1
  have c1 := hP1.sits.cell 1
  have k0 := hP1.at hbl (j := 0) rfl
  have k1 := hP1.at hbl (j := 1) rfl
  have k2 := hP1.at hbl (j := 2) rfl
  rw [← HY.out] at k0 k1 k2
  simp at c1 k0
  clear hown1 hturn1 hg1 hP1 hM1
  go_wp2_with fail
  obtain ⟨w2, hw2⟩ : ∃ w2, w2 = (w1.alloc (.cells #[.int .i64 y.t, .int .i64 y.id, (Value.int .i64 (y.v))] 71)).alloc (.cells #[.int .i64 0, .int .i64 0, (Value.int .i64 0)] 71) := ⟨_, rfl⟩
  obtain ⟨q0, hq0⟩ : ∃ q0, q0 = w1.heap.size := ⟨_, rfl⟩
  obtain ⟨q1, hq1⟩ : ∃ q1, q1 = w1.heap.size + 1 := ⟨_, rfl⟩
  rw [← hw2, ← hq1, ← hq0]
  have hb2 : Below w1.heap.size w1 w2 := hw2 ▸ ((Below.refl _ w1).alloc (Nat.le_refl _) _).alloc (by rw [World.size_alloc]; omega) _
  have s0 : Sits w2 q0 71 #[.int .i64 y.t, .int .i64 y.id, (Value.int .i64 (y.v))] := by rw [hw2, hq0]; exact (Sits.fresh w1 _ _).alloc _
  have s1 : Sits w2 q1 71 #[.int .i64 0, .int .i64 0, (Value.int .i64 0)] := by
    have := Sits.fresh (w1.alloc (.cells #[.int .i64 y.t, .int .i64 y.id, (Value.int .i64 (y.v))] 71)) 71 #[.int .i64 0, .int .i64 0, (Value.int .i64 0)]
    rw [World.size_alloc, ← hq1, ← hw2] at this
    exact this
  have hP2 := P1.out.below hb2
  have hq : q0 ≠ g ∧ q1 ≠ g ∧ q0 ≠ p ∧ q1 ≠ p ∧ q0 ≠ m := by have := P1.out.lt; omega
  have HQ := Lib.hid hq
  have P2 := Lib.hid hP2
  have M2 := Lib.hid (M1.out.then hb2)
  have S0 := Lib.hid s0
  have S1 := Lib.hid s1
  obtain ⟨cur, hcur, _⟩ := hP2.row
  clear c1 k0 k1 k2
  have c1 := hP2.sits.cell 1
  have z0 := s1.cell 0
  have z1 := s1.cell 1
  have z2 := s1.cell 2
  have d0 := hP2.at hbl (j := 0) rfl
  have d1 := hP2.at hbl (j := 1) rfl
  have d2 := hP2.at hbl (j := 2) rfl
  have f0 := hcur.warm (b * 3)
  have f1 := hcur.warm (b * 3 + 1)
  have f2 := hcur.warm (b * 3 + 2)
  simp at c1 z0 z1 z2 d0
  clear hw2 hq0 hq1 hb2 s0 s1 hP2 hq hcur
  go_region
  obtain ⟨w3, hw3⟩ : ∃ w3, w3 = (((w2.setCell ⟨g, b * 3, none⟩ (.int .i64 0)).setCell ⟨g, b * 3 + 1, none⟩ (.int .i64 0)).setCell ⟨g, b * 3 + 2, none⟩ (Value.int .i64 0)).drew := ⟨_, rfl⟩
  rw [← hw3]
  have hP3 : PileI w3 p g m cap (l.set b ⟨0, 0, 0⟩) (D.del (key x.id)) n last := hw3 ▸ (P2.out.put hbl ⟨0, 0, 0⟩).drewN 1
  have hM3 : Many (Tri p g m) w w3 := hw3 ▸ (((M2.out.store (.inr (.inl rfl)) _ _).store (.inr (.inl rfl)) _ _).store (.inr (.inl rfl)) _ _).drewN 1
  have hS3 : Sits w3 q0 71 #[.int .i64 y.t, .int .i64 y.id, (Value.int .i64 (y.v))] := hw3 ▸ (((S0.out.away (p := ⟨g, b * 3, none⟩) HQ.out.1 _).away (p := ⟨g, b * 3 + 1, none⟩) HQ.out.1 _).away (p := ⟨g, b * 3 + 2, none⟩) HQ.out.1 _).drewN 1
  clear c1 z0 z1 z2 d0 d1 d2 f0 f1 f2
  have c1 := hP3.sits.cell 1
  have f1 := hP3.sits.warm 1
  have hcl := hP3.len
  rw [List.length_set] at hcl
  simp at c1
  have P3 := Lib.hid hP3
  have M3 := Lib.hid hM3
  have S3 := Lib.hid hS3
  have hbc : b ≤ cap := by omega
  clear hw3 hP3 hM3 hS3
  have htl : (l.set b (⟨0, 0, 0⟩ : HeapP.It Int)).take b = l.take b := take_set _ _ _
  have hP4 := P3.out.take (b := b) (by rw [List.length_set]; omega)
  rw [htl] at hP4
  have hM4 := M3.out.store (q := p) (.inl rfl) 1 (.slice (some ⟨g, 0, none⟩) b cap)
  have hS4 := S3.out.away (p := ⟨p, 1, none⟩) HQ.out.2.2.1 (.slice (some ⟨g, 0, none⟩) b cap)
  have hlb : (l.take b).length = b := by simp; omega
  have P4 := Lib.hid hP4
  have M4 := Lib.hid hM4
  have S4 := Lib.hid hS4
  have HLB := Lib.hid hlb
  clear hP4 hM4 hS4 htl hlb
  by_cases hkb : k = b
  · have hxy : x = y := by rw [HX.out, HY.out, hkb]
    have HXY := Lib.hid hxy
    have HKB := Lib.hid hkb
    have e2 : ((k : Int) == (b : Int)) = true := by simp [hkb]
    have e3 : decide (k = b) = true := by simp [hkb]
    clear hxy hkb
    go_wp2
    go_returns
    refine ⟨rfl, fun L' hL => ⟨HLO.out.1, l.take b, D.del (key x.id), (HXY.out ▸ HY.out ▸ HF.out.pop HBL.out).iff fun z => ?_, .inr ⟨g, m, cap, HLO.out.2.1, HLO.out.2.2.1, P4.out.mono (by omega)⟩⟩, P0.out.shy M4.out, M4.out.below (fun k hk => hk.lo HLO.out.1 HLO.out.2.1 HLO.out.2.2.1) HLO.out.2.2.2⟩
    rw [hL, ← HX.out]
  · have hkb' : k < b := by have := HBL.out; omega
    have e3 : decide (k = b) = false := by simp [hkb]
    go_wp2_with fail
    clear c1 f1
    generalize w3.setCell ⟨p, 1, none⟩ (.slice (some ⟨g, 0, none⟩) b cap) = w4 at *
    have hkt : k < (l.take b).length := by rw [HLB.out]; exact hkb'
    obtain ⟨cur, hcur, _⟩ := P4.out.row
    have c1 := P4.out.sits.cell 1
    rw [HLB.out] at c1
    have y0 := S4.out.cell 0
    have y1 := S4.out.cell 1
    have y2 := S4.out.cell 2
    have d0 := P4.out.at hkt (j := 0) rfl
    have d1 := P4.out.at hkt (j := 1) rfl
    have d2 := P4.out.at hkt (j := 2) rfl
    have f0 := hcur.warm (k * 3)
    have f1 := hcur.warm (k * 3 + 1)
    have f2 := hcur.warm (k * 3 + 2)
    simp at c1 y0 y1 y2 d0
    clear hcur
    go_region
    obtain ⟨w5, hw5⟩ : ∃ w5, w5 = (((w4.setCell ⟨g, k * 3, none⟩ (.int .i64 y.t)).setCell ⟨g, k * 3 + 1, none⟩ (.int .i64 y.id)).setCell ⟨g, k * 3 + 2, none⟩ (Value.int .i64 (y.v))).drew := ⟨_, rfl⟩
    rw [← hw5]
    have hP5 : PileI w5 p g m cap ((l.take b).set k y) (D.del (key x.id)) n last := hw5 ▸ (P4.out.put hkt y).drewN 1
    have hM5 : Many (Tri p g m) w w5 := hw5 ▸ (((M4.out.store (.inr (.inl rfl)) _ _).store (.inr (.inl rfl)) _ _).store (.inr (.inl rfl)) _ _).drewN 1
    have hole := HF.out.out HBL.out hkb'
    rw [← HX.out, ← HY.out] at hole
    have hl5 : ((l.take b).set k y).length = b := by rw [List.length_set, HLB.out]
    have hidB : ∀ z, (z ∈ L ∧ z.id ≠ x.id) → -9223372036854775808 ≤ z.id ∧ z.id ≤ 9223372036854775807 := fun z hz => by have := HID.out z hz.1; have := HLS.out; omega
    have P5 := Lib.hid hP5
    have M5 := Lib.hid hM5
    have HO := Lib.hid hole
    have HL5 := Lib.hid hl5
    have HIB := Lib.hid hidB
    clear hw5 hP5 hM5 hole hl5 hidB c1 y0 y1 y2 d0 d1 d2 f0 f1 f2
    go_wp2_with fail
    refine (riseI_any p g m cap ((l.take b).set k y) _ n last k y _ w5 P5.out HO.out (gt_same _ _ hkt) HIB.out (by rw [HL5.out]; have := HLEN.out; omega) (by have := HLEN.out; have := HN.out; omega)).mono ?_
    rintro e w6 ⟨k', l', D', rfl, hP6, hl6, hO6, hg6, hu6, _, hM6⟩
    have P6 := Lib.hid hP6
    have M6 := Lib.hid (M5.out.trans hM6)
    have HL6 := Lib.hid hl6
    have HO6 := Lib.hid (And.intro hO6 (And.intro hg6 hu6))
    clear hP6 hl6 hO6 hg6 hu6 hM6
    go_wp2_with fail
    refine (sinkI_any p g m cap l' D' (n + k + 1) last k' y _ w6 P6.out HO6.out.1 HO6.out.2.1 HO6.out.2.2 HIB.out (by rw [HL6.out, HL5.out]; have := HLEN.out; omega) (by rw [HL6.out, HL5.out]; have := HLEN.out; have := HN.out; omega)).mono ?_
    rintro e w7 ⟨rfl, l7, D7, hP7, hl7, hF7, hM7⟩
    go_wp2
    go_returns
    refine ⟨rfl, fun L' hL => ⟨HLO.out.1, l7, D7, hF7.iff fun z => ?_, .inr ⟨g, m, cap, HLO.out.2.1, HLO.out.2.2.1, hP7.mono (by rw [HL6.out, HL5.out]; have := HLEN.out; omega)⟩⟩, P0.out.shy (M6.out.trans hM7), (M6.out.trans hM7).below (fun k hk => hk.lo HLO.out.1 HLO.out.2.1 HLO.out.2.2.1) HLO.out.2.2.2⟩
    rw [hL, ← HX.out]

end Go.Proofs.YtfjpoadmbdjmnaaGreat
