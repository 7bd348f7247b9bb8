/- NetPlays' switch, a case each: many Sends, Send. -/
import Derived.Test.YtkfbljbhdjnggaaNpC
namespace Go.Proofs.Ytkfbljbhdjnggaa
open Go Go.RowKit Go.Maps NetP
set_option maxRecDepth 1000000
set_option maxHeartbeats 4000000
set_option linter.unusedSimpArgs false

theorem pks_any {W : World} {b cap : Nat} {t : TypeId} {l : List Pk} (hs : Sits W b t (l.flatMap encK).toArray) (h1 : l.length ≤ cap) (h2 : cap ≤ 9223372036854775807) : Pks W (.slice (some ⟨b, 0, none⟩) l.length cap) l := by
  refine ⟨_, _, rfl, h1, by omega, fun i hi => ⟨b, 0, rfl, hs.lt, fun j u hu => ?_⟩⟩
  rw [Nat.zero_add, hs.cell]
  have := flat_at (f := encK) (k := 3) (fun _ => rfl) l i hi j u hu
  simpa using this
theorem cell_block {w w' : World} {b i : Nat} (h : w'.heap[b]? = w.heap[b]?) : w'.cell? ⟨b, i, none⟩ = w.cell? ⟨b, i, none⟩ := by
  unfold World.cell?
  simp only [h]
theorem Lent.many {S : Nat → Prop} {w w' : World} {base : Nat} {v : Value} {n : Nat} {xs mark : List Value} (h : Lent w base v n xs mark) (hm : Many S w w') (hS : ∀ g, v.ownBlock = some g → ¬ S g) : Lent w' base v n xs mark := by
  obtain ⟨g, cap, rfl, h1, h2, h3, h4, h5⟩ := h
  exact ⟨g, cap, rfl, h1, h2, h3, Nat.lt_of_lt_of_le h4 hm.size, fun j u hu => (cell_block (hm.block g h4 (hS g rfl))).trans (h5 j u hu)⟩
theorem sw_many (f : Nat → Value) (w w3 : World) (g r ob c : Nat) (L : List Pk) (C : List (Int × Int)) (a : St14) (Q : Exit → Act → World → Prop) (hST : StN w w3 g r ob c L C L C a) (_hc : c ≤ 1000) (hC : C.length ≤ 1000)
    (h5 : f 5 = .pointer (some ⟨g, 0, none⟩)) (h6 : f 6 = .pointer (some ⟨r, 0, none⟩)) (h8 : f 8 = .pointer (some ⟨ob, 0, none⟩)) (h9 : f 9 = .bool false) (h10 : f 10 = .bool false) (h50 : f 50 = .int .i64 a.k)
    (hQ : SwQ f w g r ob c C a Q) (hk : ¬ (1 ≤ a.k ∧ a.k ≤ 8)) : Code.wp Try.prog swL Q ⟨frame f, []⟩ w3 := by
  have HST := Lib.hid hST
  have HQ := Lib.hid hQ
  have e1 : (a.k == 1) = false := by simp; omega
  have e2 : (a.k == 2) = false := by simp; omega
  have e3 : (a.k == 3) = false := by simp; omega
  have e4 : (a.k == 4) = false := by simp; omega
  have e5 : (a.k == 5) = false := by simp; omega
  have e6 : (a.k == 6) = false := by simp; omega
  have e7 : (a.k == 7) = false := by simp; omega
  have e8 : (a.k == 8) = false := by simp; omega
  have HC := Lib.hid hC
  clear hST hQ hk hC
  unfold frame
  rw [h5, h6, h8, h9, h10, h50]
  clear h5 h6 h8 h9 h10 h50
  conv => arg 2; whnf
  go_wp2_with fail
  go_loopw [17] (fun iv wr => ∃ (q : Nat) (L' : List Pk), q ≤ 890 ∧ iv = .int .i64 (q : Int) ∧ Hid (StN w wr g r ob c L' C L' C a)) (fun iv _ => 890 - (intOf iv).toNat)
  case atStart => exact ⟨0, L, by omega, rfl, Lib.hid HST.out⟩
  case round =>
    obtain ⟨q, L', hq, rfl, hJ⟩ := hrel
    have hqI : (q : Int) ≤ 890 := by omega
    by_cases hlt : q < 890
    · have hltI : (q : Int) < 890 := by omega
      have hb1 : Below wr.heap.size wr (wr.alloc (.cells #[.int .i64 1, .int .i64 2, .string ⟨#[]⟩] 45)) := (Below.refl _ wr).alloc (Nat.le_refl _) _
      have hk1 := hJ.out.toK.guard hb1
      have hs1 := hk1.call (L1' := (sendF C L' [⟨1, 2, []⟩]).1) (C1' := C) (L2' := L') (C2' := C) (c' := c) ((tsend (g := g) (c := c) (L := L') (C := C) (.slice (some ⟨wr.heap.size, 0, none⟩) 1 1) [⟨1, 2, []⟩] (by simp) (fun x hx => by
        obtain rfl := List.mem_singleton.1 hx
        exact ⟨rfl, rfl⟩)).left (B := RN r L' C) (holdNX _ _ _ _) (holdRN _ _ _)) (fun S W h => by
        obtain ⟨S1, S2, x1, x2⟩ := h
        exact ⟨S1, S2, .inl x1, x2⟩) (fun w' hm => pks_any (l := [⟨1, 2, []⟩]) ((Sits.fresh wr 45 #[.int .i64 1, .int .i64 2, .string ⟨#[]⟩]).many hm fun h => h (.inr ⟨Nat.le_refl _, by rw [World.size_alloc]; omega⟩)) (by simp) (by decide))
      have HS1 := Lib.hid hs1
      have HOP := Lib.hid (And.intro (hJ.out.op.below' hb1) hJ.out.obl)
      have HL' := Lib.hid hJ.out.len
      have ew : IntKind.i64.wrap ((q : Int) + 1) = (q : Int) + 1 := IntWalk.i64_in _ (by omega)
      clear hJ hb1 hk1 hs1
      go_wp2_with fail
      refine HS1.out.mono ?_
      rintro e w4 ⟨rfl, h4, hm4⟩
      have hop4 := HOP.out.1.many hm4 fun h => h (.inl rfl)
      have hb5 : Below w4.heap.size w4 (w4.alloc (.cells #[.int .i64 1, .int .i64 2, .string ⟨#[]⟩] 48)) := (Below.refl _ w4).alloc (Nat.le_refl _) _
      have hs5 := (h4.guard hb5).call (L1' := (sendF C L' [⟨1, 2, []⟩]).1) (C1' := C) (L2' := (sendF C L' [⟨1, 2, []⟩]).1) (C2' := C) (c' := c) ((uSend (r := r) (L := L') (C := C) HL'.out (by have := HC.out; omega) (.slice (some ⟨w4.heap.size, 0, none⟩) 1 1) [⟨1, 2, []⟩] (by simp)).right (holdNX _ _ _ _) (holdRN _ _ _)) (fun S W h => h) (fun w' hm => pks_any (l := [⟨1, 2, []⟩]) ((Sits.fresh w4 48 #[.int .i64 1, .int .i64 2, .string ⟨#[]⟩]).many hm fun h => h (.inr ⟨Nat.le_refl _, by rw [World.size_alloc]; omega⟩)) (by simp) (by decide))
      have HS5 := Lib.hid hs5
      have HOP5 := Lib.hid (hop4.below' hb5)
      clear h4 hm4 hop4 hb5 hs5 HS1
      go_wp2_with fail
      refine HS5.out.mono ?_
      rintro e w6 ⟨rfl, h6', hm6⟩
      have H6 := Lib.hid (h6'.toN (.inl (.inl rfl)) (HOP5.out.many hm6 fun h => h (.inl (.inl rfl))) HOP.out.2)
      clear h6' hm6 HS5 HOP5 HOP
      go_wp2_with fail
      go_roundw
      case rel => exact ⟨q + 1, _, by omega, by go_num, Lib.hid H6.out⟩
      case measure => simp [intOf]; omega
    · obtain rfl : q = 890 := by omega
      have HJ := Lib.hid hJ.out
      clear hJ
      go_wp2_with fail
      exact HQ.out _ _ _ _ _ _ ⟨rfl, rfl, rfl, rfl, rfl, rfl, rfl, rfl, rfl⟩ (Nat.le_succ _) (Nat.le_succ _) HJ.out
/-- How far the three calls of one region are that turn memory. -/
structure ClsP (R0 R1 : World → Prop) (R2 : Value → World → Prop) (R3 : World → Prop) (d : Nat → Option Value) (W : World) : Prop where
  at_ : (d 2 = none ∧ d 6 = none ∧ d 7 = none ∧ R0 W) ∨ ((d 2).isSome = true ∧ d 6 = none ∧ d 7 = none ∧ R1 W) ∨ (∃ v, (d 2).isSome = true ∧ d 6 = some v ∧ d 7 = none ∧ R2 v W) ∨ ((d 2).isSome = true ∧ (d 6).isSome = true ∧ (d 7).isSome = true ∧ R3 W)
section
variable {R0 R1 : World → Prop} {R2 : Value → World → Prop} {R3 : World → Prop} {d : Nat → Option Value} {W W' : World} {i : Nat} {v : Value}
theorem ClsP.start (h : R0 W) : ClsP R0 R1 R2 R3 (fun _ => none) W := ⟨.inl ⟨rfl, rfl, rfl, h⟩⟩
theorem ClsP.pure (h : ClsP R0 R1 R2 R3 d W) (h2 : i ≠ 2) (h6 : i ≠ 6) (h7 : i ≠ 7) : ClsP R0 R1 R2 R3 (setv d i v) W := by
  constructor
  rw [setv_other d v h2, setv_other d v h6, setv_other d v h7]
  exact h.at_
theorem ClsP.turn (h : ClsP R0 R1 R2 R3 d W) (k0 : R0 W → R0 W') (k1 : R1 W → R1 W') (k2 : ∀ v, R2 v W → R2 v W') (k3 : R3 W → R3 W') : ClsP R0 R1 R2 R3 d W' := by
  rcases h.at_ with ⟨a, b, c, e⟩ | ⟨a, b, c, e⟩ | ⟨v, a, b, c, e⟩ | ⟨a, b, c, e⟩
  · exact ⟨.inl ⟨a, b, c, k0 e⟩⟩
  · exact ⟨.inr (.inl ⟨a, b, c, k1 e⟩)⟩
  · exact ⟨.inr (.inr (.inl ⟨v, a, b, c, k2 v e⟩))⟩
  · exact ⟨.inr (.inr (.inr ⟨a, b, c, k3 e⟩))⟩
theorem ClsP.all {C : World → Prop} (h : ClsP R0 R1 R2 R3 d W) (k0 : R0 W → C W) (k1 : R1 W → C W) (k2 : ∀ v, R2 v W → C W) (k3 : R3 W → C W) : C W := by
  rcases h.at_ with ⟨a, b, c, e⟩ | ⟨a, b, c, e⟩ | ⟨v, a, b, c, e⟩ | ⟨a, b, c, e⟩
  · exact k0 e
  · exact k1 e
  · exact k2 v e
  · exact k3 e
theorem ClsP.s0 (h : ClsP R0 R1 R2 R3 d W) (hd : d 2 = none) : R0 W ∧ d 6 = none ∧ d 7 = none := by
  rcases h.at_ with ⟨a, b, c, e⟩ | ⟨a, b, c, e⟩ | ⟨v, a, b, c, e⟩ | ⟨a, b, c, e⟩
  · exact ⟨e, b, c⟩
  all_goals (rw [hd] at a; cases a)
theorem ClsP.one (h : ClsP R0 R1 R2 R3 d W) (hd : d 2 = none) (k : R1 W') : ClsP R0 R1 R2 R3 (setv d 2 v) W' := by
  obtain ⟨_, h6, h7⟩ := h.s0 hd
  refine ⟨.inr (.inl ⟨by rw [setv_same]; rfl, ?_, ?_, k⟩)⟩
  · rw [setv_other d v (by decide)]; exact h6
  · rw [setv_other d v (by decide)]; exact h7
theorem ClsP.s1 (h : ClsP R0 R1 R2 R3 d W) (h2 : (d 2).isSome = true) (hd : d 6 = none) : R1 W ∧ d 7 = none := by
  rcases h.at_ with ⟨a, b, c, e⟩ | ⟨a, b, c, e⟩ | ⟨v, a, b, c, e⟩ | ⟨a, b, c, e⟩
  · rw [a] at h2; cases h2
  · exact ⟨e, c⟩
  · rw [hd] at b; cases b
  · rw [hd] at b; cases b
theorem ClsP.two (h : ClsP R0 R1 R2 R3 d W) (h2 : (d 2).isSome = true) (hd : d 6 = none) (k : R2 v W') : ClsP R0 R1 R2 R3 (setv d 6 v) W' := by
  obtain ⟨_, h7⟩ := h.s1 h2 hd
  refine ⟨.inr (.inr (.inl ⟨v, ?_, setv_same _ _ _, ?_, k⟩))⟩
  · rw [setv_other d v (by decide)]; exact h2
  · rw [setv_other d v (by decide)]; exact h7
theorem ClsP.s2 (h : ClsP R0 R1 R2 R3 d W) (h6 : d 6 = some v) (hd : d 7 = none) : R2 v W ∧ (d 2).isSome = true := by
  rcases h.at_ with ⟨a, b, c, e⟩ | ⟨a, b, c, e⟩ | ⟨u, a, b, c, e⟩ | ⟨a, b, c, e⟩
  · rw [h6] at b; cases b
  · rw [h6] at b; cases b
  · rw [h6] at b; cases b; exact ⟨e, a⟩
  · rw [hd] at c; cases c
theorem ClsP.three {u : Value} (h : ClsP R0 R1 R2 R3 d W) (h6 : d 6 = some v) (hd : d 7 = none) (k : R3 W') : ClsP R0 R1 R2 R3 (setv d 7 u) W' := by
  obtain ⟨_, h2⟩ := h.s2 h6 hd
  refine ⟨.inr (.inr (.inr ⟨?_, ?_, by rw [setv_same]; rfl, k⟩))⟩
  · rw [setv_other d u (by decide)]; exact h2
  · rw [setv_other d u (by decide), h6]; rfl
theorem ClsP.done (h : ClsP R0 R1 R2 R3 d W) (h7 : (d 7).isSome = true) : R3 W := by
  rcases h.at_ with ⟨a, b, c, e⟩ | ⟨a, b, c, e⟩ | ⟨u, a, b, c, e⟩ | ⟨a, b, c, e⟩
  · rw [c] at h7; cases h7
  · rw [c] at h7; cases h7
  · rw [c] at h7; cases h7
  · exact e
end
theorem PkW.inR {x : Pk} (h : PkW x) : InR (x.f, x.t) := ⟨wf_of h.f, wf_of h.t⟩
theorem sw_send (f : Nat → Value) (w w3 : World) (g r ob c : Nat) (L : List Pk) (C : List (Int × Int)) (a : St14) (Q : Exit → Act → World → Prop) (hST : StN w w3 g r ob c L C L C a) (_hc : c ≤ 1000) (hC : C.length ≤ 1000)
    (h5 : f 5 = .pointer (some ⟨g, 0, none⟩)) (h6 : f 6 = .pointer (some ⟨r, 0, none⟩)) (h8 : f 8 = .pointer (some ⟨ob, 0, none⟩)) (h9 : f 9 = .bool false) (h10 : f 10 = .bool false) (h50 : f 50 = .int .i64 a.k)
    (hQ : SwQ f w g r ob c C a Q) (hP : ∀ W, Below w.heap.size w W → Pks W a.s a.l) (hW : ∀ x ∈ a.l, PkW x) (hl : a.l.length ≤ 60) (hk : a.k = 1) : Code.wp Try.prog swL Q ⟨frame f, []⟩ w3 := by
  obtain ⟨o0, o1, o2, o3, ol⟩ := hST.cells
  have HST := Lib.hid hST
  have HQ := Lib.hid hQ
  have HL := Lib.hid hST.len
  have e1 : (a.k == 1) = true := by simp [hk]
  have HLT := Lib.hid (lentPackets_any a.s a.l w3 (hP w3 hST.low) (by omega))
  have HP := Lib.hid hP
  have HW := Lib.hid hW
  have HLC := Lib.hid (And.intro hC hl)
  clear hST hQ hk hC hP hW hl
  unfold frame
  rw [h5, h6, h8, h9, h10, h50]
  clear h5 h6 h8 h9 h10 h50
  conv => arg 2; whnf
  go_wp2_with fail
  refine HLT.out.mono ?_
  rintro e w4 ⟨u, rfl, hu, hb4⟩
  have hk0 := HST.out.toK.guard hb4
  obtain ⟨K0, hK0⟩ : ∃ K : Nat → Prop, K = fun i => i = ob ∨ (w3.heap.size ≤ i ∧ i < w4.heap.size) := ⟨_, rfl⟩
  rw [← hK0] at hk0
  have hob : K0 ob := by rw [hK0]; exact .inl rfl
  have huK : ∀ b, u.ownBlock = some b → K0 b := fun b hb => by
    obtain ⟨gu, cu, rfl, _, _, h3, h4, _⟩ := hu
    simp only [Value.ownBlock, Option.map_some, Option.some.injEq] at hb
    subst hb
    rw [hK0]
    exact .inr ⟨h3, h4⟩
  obtain ⟨z, hz⟩ : ∃ z, z = (sendF C L a.l).2 := ⟨_, rfl⟩
  obtain ⟨L', hL'⟩ : ∃ L', L' = (sendF C L a.l).1 := ⟨_, rfl⟩
  obtain ⟨LK, hLK⟩ : ∃ LK : World → Prop, LK = fun W => Lent W w3.heap.size u a.l.length (a.l.flatMap encK) markK ∧ Sits W ob 37 (opC a) := ⟨_, rfl⟩
  have lk_below : ∀ W W', LK W → Below W.heap.size W W' → LK W' := fun W W' h hb => by
    rw [hLK] at h ⊢
    exact ⟨h.1.below hb, h.2.below' hb⟩
  have lk_many : ∀ (K : Nat → Prop) W W', (∀ i, K0 i → K i) → LK W → Many (fun i => ¬ K i) W W' → LK W' := fun K W W' hK h hm => by
    rw [hLK] at h ⊢
    exact ⟨h.1.many hm fun b hb e => e (hK b (huK b hb)), h.2.many hm fun e => e (hK ob hob)⟩
  have h0 : LK w4 := by rw [hLK]; exact ⟨hu, HST.out.op.below' hb4⟩
  have HCE : Hid (∀ W, LK W → W.cell? ⟨ob, 0, none⟩ = some (.int .i64 a.k) ∧ W.cell? ⟨ob, 1, none⟩ = some (.int .i64 a.a) ∧ W.cell? ⟨ob, 2, none⟩ = some (.int .i64 a.b) ∧ W.cell? ⟨ob, 3, none⟩ = some a.s ∧ ob < W.heap.size) := Lib.hid fun W h => by
    rw [hLK] at h
    exact ⟨h.2.cell 0, h.2.cell 1, h.2.cell 2, h.2.cell 3, h.2.lt⟩
  have HSA : Hid (∀ W, StK w W g r K0 c L C L C → LK W → Calls Try.prog 11 #[.pointer (some ⟨g, 0, none⟩), u] W fun e w' => e = .returned (.int .i64 (z : Int)) ∧ StK w w' g r K0 c L' C L C ∧ LK w') := Lib.hid fun W h hlk => by
    rw [hz, hL']
    exact (h.call (L1' := (sendF C L a.l).1) (C1' := C) (L2' := L) (C2' := C) (c' := c) ((tsend (g := g) (c := c) (L := L) (C := C) u a.l (by have := HLC.out; omega) (fun x hx => (HW.out x hx).inR)).left (B := RN r L C) (holdNX _ _ _ _) (holdRN _ _ _)) (fun S W h => by
      obtain ⟨S1, S2, x1, x2⟩ := h
      exact ⟨S1, S2, .inl x1, x2⟩) (fun w' hm => by
      have := lk_many K0 W w' (fun _ h => h) hlk hm
      rw [hLK] at this
      exact this.1.pks)).mono fun e w' ⟨he, hk, hm⟩ => ⟨he, hk, lk_many K0 W w' (fun _ h => h) hlk hm⟩
  have HPL : Hid (∀ W, StK w W g r K0 c L' C L C → LK W → Calls Try.prog 13 #[a.s] W fun e w' => ∃ v, e = .returned v ∧ (∃ K, (∀ i, K0 i → K i) ∧ StK w w' g r K c L' C L C ∧ LK w' ∧ RowAt w' 0 48 3 v a.l.length (a.l.flatMap encK) ∧ ∀ b, v.ownBlock = some b → K b)) := Lib.hid fun W h hlk =>
    (plain_any a.s a.l W (HP.out W h.low) (by have := HLC.out; omega)).mono fun e w' ⟨v, he, hrow, hb⟩ => ⟨v, he, _, fun i hi => .inl hi, h.guard hb, lk_below W w' hlk hb, hrow.mono (Nat.zero_le _), fun b hb' => .inr (hrow.lt b hb')⟩
  have HSB : Hid (∀ W v, (∃ K, (∀ i, K0 i → K i) ∧ StK w W g r K c L' C L C ∧ LK W ∧ RowAt W 0 48 3 v a.l.length (a.l.flatMap encK) ∧ ∀ b, v.ownBlock = some b → K b) → Calls Try.prog 12 #[.pointer (some ⟨r, 0, none⟩), v] W fun e w' => e = .returned (.int .i64 (z : Int)) ∧ (∃ K, (∀ i, K0 i → K i) ∧ StK w w' g r K c L' C L' C ∧ LK w')) := Lib.hid fun W v ⟨K, hK, h, hlk, hrow, hv⟩ => by
    have h2 := h.call (L1' := L') (C1' := C) (L2' := L') (C2' := C) (c' := c) ((uSend (r := r) (L := L) (C := C) HL.out (by have := HLC.out; omega) v a.l (by have := HLC.out; omega)).right (holdNX g c L' C) (holdRN _ _ _)) (fun S W h => by rw [hL'] at h ⊢; exact h) (fun w' hm => row_at (hrow.keep fun b hb => hm.block b (hrow.lt b hb).2 fun e => e (hv b hb)))
    rw [← hz] at h2
    exact h2.mono fun e w' ⟨he, hk, hm⟩ => ⟨he, K, hK, hk, lk_many K W w' hK hlk hm⟩
  have HST2 : Hid (∀ W, LK W → Below w.heap.size w W → Calls Try.prog 14 #[u, a.s] W fun e w' => e = .returned (.bool true) ∧ ∃ n, w' = W.drewN n) := Lib.hid fun W h hb => by
    rw [hLK] at h
    exact staysPackets_yes u a.s a.l w3.heap.size W h.1 (HP.out W hb)
  have HFI : Hid (∀ W, (∃ K, (∀ i, K0 i → K i) ∧ StK w W g r K c L' C L' C ∧ LK W) → StN w W g r ob c L' C L' C a) := Lib.hid fun W ⟨K, hK, h, hlk⟩ => by
    rw [hLK] at hlk
    exact h.toN (hK ob hob) hlk.2 HST.out.obl
  have HB := Lib.hid lk_below
  have H0 := Lib.hid (And.intro hk0 h0)
  obtain ⟨p0, p1, p2, p3, pl⟩ := HCE.out w4 h0
  clear hk0 hob huK hz hL' hLK lk_many hu hK0 o0 o1 o2 o3 ol HLT HLC HP HW HL h0 lk_below hb4 p0 p1 p2 p3 pl
  go_wp2_with fail
  refine wp_region_exV (by kernel_rfl) (ClsP (fun W => StK w W g r K0 c L C L C ∧ LK W) (fun W => StK w W g r K0 c L' C L C ∧ LK W) (fun v W => ∃ K, (∀ i, K0 i → K i) ∧ StK w W g r K c L' C L C ∧ LK W ∧ RowAt W 0 48 3 v a.l.length (a.l.flatMap encK) ∧ ∀ b, v.ownBlock = some b → K b) (fun W => ∃ K, (∀ i, K0 i → K i) ∧ StK w W g r K c L' C L' C ∧ LK W))
    [[(5, none)], [(11, none)], [(68, some 0), (69, some 1)], [(6, none)], [(8, none)], [(72, some 4)], [(73, some 5)], [(71, some 3), (74, some 6)], [(70, some 2), (75, some 7)], [(76, some 8)], [(11, none), (77, some 9)], [(8, none), (77, some 9)], [(77, some 9), (79, some 11)], [(77, some 9), (78, some 10), (80, some 12)], [(77, some 9), (81, some 13)], [(77, some 9), (82, some 14)]]
    [none, none, none, none, none, none, none, none, none, none, none, none, none, none, none, none, none, none, none, none, none, none, none, none, none, none, none, none, none, none, none, none, none, none, none, none, none, none, none, none, none, none, none, none, none, none, none, none, none, none, none, none, none, none, none, none, none, none, none, none, none, none, none, none, none, none, none, none, some 0, some 1, some 2, some 3, some 4, some 5, some 6, some 7, some 8, some 9, some 10, some 11, some 12, some 13, some 14, some 15, none, none, none, none, none, none, none, none, none, none, none, none, none, none, none, none, none, none, none, none, none, none, none, none, none, none, none, none, none, none, none, none, none, none, none, none, none, none, none, none, none, none, none, none, none, none, none, none, none, none, none, none, none, none, none, none, none, none, none, none, none, none, none, none, none, none, none, none, none, none, none, none, none, none, none, none, none, none, none, none, none, none, none, none, none, none, none, none, none, none, none, none, none, none, none, none, none, none, none, none, none, none, none, none, none, none, none, none, none, none, none, none, none, none, none, none, none, none, none, none, none, none, none, none, none, none, none, none, none, none, none, none, none, none, none, none, none, none, none, none, none, none, none, none, none, none, none, none, none, none, none, none, none, none, none, none, none, none, none, none, none, none, none, none, none, none, none, none, none, none, none, none, none, none, none, none, none, none, none, none] (by kernel_rfl) (by kernel_rfl) (ClsP.start ⟨H0.out.1.below (Below.refl _ _).drew, HB.out _ _ H0.out.2 (Below.refl _ _).drew⟩) ?_
  iterate 2
    refine exV_pure (c := ?_) (fun _ _ _ h => h.pure (by decide) (by decide) (by decide)) ?_ ?_
    rotate_left
    · intro a' d' W hR hF
      simp only [FactsV, List.nil_append, List.cons_append, List.getD_cons_zero, List.getD_cons_succ, exists_eq_left, and_true, true_and, List.getElem?_toArray, List.getElem?_cons_zero, List.getElem?_cons_succ] at hF
      refine ⟨?_, ?_⟩
      · simp [Region.wanted, yielded, hF]
      · go_simp
        with_reducible rfl
  refine exV_callv (fun x => x = .int .i64 (z : Int)) (fun a' d' W hd hR hF => ?_) ?_
  · skip
    simp only [FactsV, List.nil_append, List.cons_append, List.getD_cons_zero, List.getD_cons_succ, exists_eq_left, and_true, true_and, List.getElem?_toArray, List.getElem?_cons_zero, List.getElem?_cons_succ] at hF
    obtain ⟨⟨k0, k1⟩, _, _⟩ := hR.s0 hd
    exact ⟨by simp [Region.wanted, yielded, hF], 11, #[.pointer (some ⟨g, 0, none⟩), u], by go_simp, (HSA.out W k0 k1).mono fun e w' ⟨he, hs⟩ => ⟨_, he, hR.one hd hs, rfl⟩⟩
  iterate 3
    refine exV_pure (c := ?_) (fun _ _ _ h => h.pure (by decide) (by decide) (by decide)) ?_ ?_
    rotate_left
    · intro a' d' W hR hF
      simp only [FactsV, List.nil_append, List.cons_append, List.getD_cons_zero, List.getD_cons_succ, exists_eq_left, and_true, true_and, List.getElem?_toArray, List.getElem?_cons_zero, List.getElem?_cons_succ] at hF
      obtain ⟨p0, p1, p2, p3, pl⟩ := HCE.out W (hR.all (C := LK) (fun h => h.2) (fun h => h.2) (fun _ ⟨_, _, _, h, _⟩ => h) (fun ⟨_, _, _, h⟩ => h))
      refine ⟨?_, ?_⟩
      · simp [Region.wanted, yielded, hF]
      · go_simp
        with_reducible rfl
  refine exV_callA (fun _ => True) (fun a' d' W hd hA hR hF => ?_) ?_
  · skip
    simp only [FactsV, List.nil_append, List.cons_append, List.getD_cons_zero, List.getD_cons_succ, exists_eq_left, and_true, true_and, List.getElem?_toArray, List.getElem?_cons_zero, List.getElem?_cons_succ] at hF
    have h2 := hA ⟨2, .chain⟩ (by simp) (by decide)
    obtain ⟨⟨k0, k1⟩, _⟩ := hR.s1 h2 hd
    exact ⟨by simp [Region.wanted, yielded, hF], 13, #[a.s], by go_simp, (HPL.out W k0 k1).mono fun e w' ⟨v, he, hs⟩ => ⟨v, he, hR.two h2 hd hs, trivial⟩⟩
  refine exV_callv (fun x => x = .int .i64 (z : Int)) (fun a' d' W hd hR hF => ?_) ?_
  · skip
    simp only [FactsV, List.nil_append, List.cons_append, List.getD_cons_zero, List.getD_cons_succ, exists_eq_left, and_true, true_and, List.getElem?_toArray, List.getElem?_cons_zero, List.getElem?_cons_succ] at hF
    obtain ⟨x0, ⟨v, x1, x2⟩⟩ := hF
    obtain ⟨k0, _⟩ := hR.s2 x2 hd
    exact ⟨by simp [Region.wanted, yielded, x0, x1], 12, #[.pointer (some ⟨r, 0, none⟩), v], by go_simp, (HSB.out W v k0).mono fun e w' ⟨he, hs⟩ => ⟨_, he, hR.three x2 hd hs, rfl⟩⟩
  iterate 5
    refine exV_pure (c := ?_) (fun _ _ _ h => h.pure (by decide) (by decide) (by decide)) ?_ ?_
    rotate_left
    · intro a' d' W hR hF
      simp only [FactsV, List.nil_append, List.cons_append, List.getD_cons_zero, List.getD_cons_succ, exists_eq_left, and_true, true_and, List.getElem?_toArray, List.getElem?_cons_zero, List.getElem?_cons_succ] at hF
      obtain ⟨p0, p1, p2, p3, pl⟩ := HCE.out W (hR.all (C := LK) (fun h => h.2) (fun h => h.2) (fun _ ⟨_, _, _, h, _⟩ => h) (fun ⟨_, _, _, h⟩ => h))
      refine ⟨?_, ?_⟩
      · simp [Region.wanted, yielded, hF]
      · go_simp
        with_reducible rfl
  refine exV_callv (fun x => x = .bool true) (fun a' d' W hd hR hF => ?_) ?_
  · skip
    simp only [FactsV, List.nil_append, List.cons_append, List.getD_cons_zero, List.getD_cons_succ, exists_eq_left, and_true, true_and, List.getElem?_toArray, List.getElem?_cons_zero, List.getElem?_cons_succ] at hF
    have hlk := (hR.all (C := LK) (fun h => h.2) (fun h => h.2) (fun _ ⟨_, _, _, h, _⟩ => h) (fun ⟨_, _, _, h⟩ => h))
    have hlow := hR.all (C := fun W => Below w.heap.size w W) (fun h => h.1.low) (fun h => h.1.low) (fun _ ⟨_, _, h, _⟩ => h.low) (fun ⟨_, _, h, _⟩ => h.low)
    exact ⟨by simp [Region.wanted, yielded, hF], 14, #[u, a.s], by go_simp, (HST2.out W hlk hlow).mono fun e w' ⟨he, n, hn⟩ => ⟨_, he, by
      have hb : Below W.heap.size W w' := hn ▸ below_drewN (Below.refl _ W) n
      exact (hR.turn (fun h => ⟨h.1.below hb, HB.out _ _ h.2 hb⟩) (fun h => ⟨h.1.below hb, HB.out _ _ h.2 hb⟩) (fun _ ⟨K, x1, x2, x3, x4, x5⟩ => ⟨K, x1, x2.below hb, HB.out _ _ x3 hb, x4.below hb, x5⟩) (fun ⟨K, x1, x2, x3⟩ => ⟨K, x1, x2.below hb, HB.out _ _ x3 hb⟩)).pure (by decide) (by decide) (by decide), rfl⟩⟩
  iterate 2
    refine exV_pure (c := ?_) (fun _ _ _ h => h.pure (by decide) (by decide) (by decide)) ?_ ?_
    rotate_left
    · intro a' d' W hR hF
      simp only [FactsV, List.nil_append, List.cons_append, List.getD_cons_zero, List.getD_cons_succ, exists_eq_left, and_true, true_and, List.getElem?_toArray, List.getElem?_cons_zero, List.getElem?_cons_succ] at hF
      refine ⟨?_, ?_⟩
      · simp [Region.wanted, yielded, hF]
      · go_simp
        with_reducible rfl
  show ∀ d W, _ → _ → _
  intro d w5 hA2 hR2
  simp only [FinV, List.nil_append, List.cons_append, List.getD_cons_zero, List.getD_cons_succ, forall_eq, forall_const, true_implies, forall_exists_index, and_imp, Nat.reduceAdd, Array.getD_eq_getD_getElem?, List.getElem?_toArray, List.getElem?_cons_zero, List.getElem?_cons_succ, Option.getD_some]
  have H5 := Lib.hid (HFI.out _ (hR2.done (hA2 7 (by decide))))
  clear hR2 hA2 HSA HPL HSB HST2 HCE HFI HB H0 HST
  intros
  go_wp2_with fail
  exact HQ.out _ _ _ _ _ _ ⟨rfl, rfl, rfl, rfl, rfl, rfl, rfl, rfl, rfl⟩ (Nat.le_succ _) (Nat.le_succ _) H5.out
end Go.Proofs.Ytkfbljbhdjnggaa
