/- NetPlays' switch, a case each: Take, Drop, Double, Swap, Cut, Clear. -/
import Derived.Test.YtkfbljbhdjnggaaNpA
namespace Go.Proofs.Ytkfbljbhdjnggaa
open Go Go.RowKit Go.Maps NetP
set_option maxRecDepth 1000000
set_option maxHeartbeats 4000000
set_option linter.unusedSimpArgs false

/-- What a case ends with. -/
def SwQ (f : Nat → Value) (w : World) (g r ob c : Nat) (C : List (Int × Int)) (a : St14) (Q : Exit → Act → World → Prop) : Prop :=
  ∀ a' w' L' C' c' z, Kept (f 1) (f 7) g r ob z a' → c' ≤ c + 1 → C'.length ≤ C.length + 1 → StN w w' g r ob c' L' C' L' C' a → Q .normal a' w'
theorem sw_take (f : Nat → Value) (w w3 : World) (g r ob c : Nat) (L : List Pk) (C : List (Int × Int)) (a : St14) (Q : Exit → Act → World → Prop) (hST : StN w w3 g r ob c L C L C a) (_hc : c ≤ 1000) (_hC : C.length ≤ 1000)
    (h5 : f 5 = .pointer (some ⟨g, 0, none⟩)) (h6 : f 6 = .pointer (some ⟨r, 0, none⟩)) (h8 : f 8 = .pointer (some ⟨ob, 0, none⟩)) (h9 : f 9 = .bool false) (h10 : f 10 = .bool false) (h50 : f 50 = .int .i64 a.k)
    (hQ : SwQ f w g r ob c C a Q) (hk : a.k = 2) : Code.wp Try.prog swL Q ⟨frame f, []⟩ w3 := by
  obtain ⟨o0, o1, o2, o3, ol⟩ := hST.cells
  have HST := Lib.hid hST
  have HQ := Lib.hid hQ
  have HL := Lib.hid hST.len
  have e1 : (a.k == 1) = false := by simp; omega
  have e2 : (a.k == 2) = true := by simp [hk]
  obtain ⟨⟨x, B⟩, hx⟩ : ∃ R, R = peekL L a.a := ⟨_, rfl⟩
  have t1 := hST.at_ (L1' := takeL L a.a) (C1' := C) (L2' := L) (C2' := C) (c' := c) ((ttake (g := g) (c := c) (L := L) (C := C) a.a).left (holdNX _ _ _ _) (holdRN _ _ _))
  have t2 := uTake (r := r) (C := C) hST.len a.a
  rw [← hx] at t1 t2
  simp only at t1 t2
  have T1 := Lib.hid t1
  have T2 := Lib.hid t2
  clear hST hQ hk t1 t2 hx
  unfold frame
  rw [h5, h6, h8, h9, h10, h50]
  clear h5 h6 h8 h9 h10 h50
  conv => arg 2; whnf
  go_wp2_with fail
  refine T1.out.mono ?_
  rintro e w4 ⟨rfl, h4⟩
  obtain ⟨W5, hW5⟩ : ∃ W, W = w4.alloc (.cells #[.int .i64 x.f, .int .i64 x.t, .string (str x.d)] 45) := ⟨_, rfl⟩
  have hb5 : Below w4.heap.size w4 W5 := hW5 ▸ (Below.refl _ w4).alloc (Nat.le_refl _) _
  have hs5 : Sits W5 w4.heap.size 45 #[.int .i64 x.f, .int .i64 x.t, .string (str x.d)] := hW5 ▸ Sits.fresh w4 _ _
  have T3 := Lib.hid (h4.call (L1' := takeL L a.a) (C1' := C) (L2' := takeL L a.a) (C2' := C) (c' := c) (T2.out.right (holdNX _ _ _ _) (holdRN _ _ _)).g (holdBN _ _ _ _ _ _ _) (fun _ _ h => h) hb5 (fun _ _ _ _ => trivial))
  obtain ⟨p0, p1, p2, p3, pl⟩ := (h4.below hb5).cells
  have HS5 := Lib.hid hs5
  have HW5 := Lib.hid hW5
  rw [hW5] at p0 p1 p2 p3 pl
  clear h4 hb5 hs5 T1 o0 o1 o2 o3 ol hW5
  go_wp2_with fail
  rw [← HW5.out]
  refine T3.out.mono ?_
  rintro e w6 ⟨rfl, h6', hm6⟩
  have hs6 := HS5.out.many hm6 (by have := HS5.out.lt; omega)
  obtain ⟨W7, hW7⟩ : ∃ W, W = w6.alloc (.cells #[.int .i64 x.f, .int .i64 x.t, .string (str x.d)] 48) := ⟨_, rfl⟩
  have hb7 : Below w6.heap.size w6 W7 := hW7 ▸ (Below.refl _ w6).alloc (Nat.le_refl _) _
  have hs7 : Sits W7 w6.heap.size 48 #[.int .i64 x.f, .int .i64 x.t, .string (str x.d)] := hW7 ▸ Sits.fresh w6 _ _
  have hs67 := hs6.below' hb7
  have H7 := Lib.hid (h6'.below hb7)
  have q0 := hs67.cell 0
  have q1 := hs67.cell 1
  have q2 := hs67.cell 2
  have z0 := hs7.cell 0
  have z1 := hs7.cell 1
  have z2 := hs7.cell 2
  have ql := hs67.lt
  have zl := hs7.lt
  have HSM := Lib.hid (same14_yes x W7)
  rw [hW7] at q0 q1 q2 z0 z1 z2 ql zl
  have HW7 := Lib.hid hW7
  clear h6' hm6 hs6 hb7 hs7 hs67 T3 HS5 p0 p1 p2 p3 pl hW7
  go_wp2_with fail
  rw [← HW7.out]
  refine HSM.out.mono ?_
  rintro e w8 ⟨rfl, hb8⟩
  have H8 := Lib.hid (H7.out.below hb8)
  clear hb8 q0 q1 q2 z0 z1 z2 ql zl H7
  cases B with
  | true =>
    go_wp2_with fail
    exact HQ.out _ _ _ _ _ _ ⟨rfl, rfl, rfl, rfl, rfl, rfl, rfl, rfl, rfl⟩ (Nat.le_succ _) (Nat.le_succ _) H8.out
  | false =>
    go_wp2_with fail
    exact HQ.out _ _ _ _ _ _ ⟨rfl, rfl, rfl, rfl, rfl, rfl, rfl, rfl, rfl⟩ (Nat.le_succ _) (Nat.le_succ _) H8.out
theorem sw_drop (f : Nat → Value) (w w3 : World) (g r ob c : Nat) (L : List Pk) (C : List (Int × Int)) (a : St14) (Q : Exit → Act → World → Prop) (hST : StN w w3 g r ob c L C L C a) (_hc : c ≤ 1000) (_hC : C.length ≤ 1000)
    (h5 : f 5 = .pointer (some ⟨g, 0, none⟩)) (h6 : f 6 = .pointer (some ⟨r, 0, none⟩)) (h8 : f 8 = .pointer (some ⟨ob, 0, none⟩)) (h9 : f 9 = .bool false) (h10 : f 10 = .bool false) (h50 : f 50 = .int .i64 a.k)
    (hQ : SwQ f w g r ob c C a Q) (hk : a.k = 3) : Code.wp Try.prog swL Q ⟨frame f, []⟩ w3 := by
  obtain ⟨o0, o1, o2, o3, ol⟩ := hST.cells
  have HST := Lib.hid hST
  have HQ := Lib.hid hQ
  have HL := Lib.hid hST.len
  have e1 : (a.k == 1) = false := by simp; omega
  have e2 : (a.k == 2) = false := by simp; omega
  have e3 : (a.k == 3) = true := by simp [hk]
  obtain ⟨⟨x, B⟩, hx⟩ : ∃ R, R = peekL L a.a := ⟨_, rfl⟩
  have t1 := hST.at_ (L1' := L) (C1' := C) (L2' := takeL L a.a) (C2' := C) (c' := c) ((uTake (r := r) (C := C) hST.len a.a).right (holdNX _ _ _ _) (holdRN _ _ _))
  have t2 := tdrop (g := g) (c := c) (L := L) (C := C) a.a
  rw [← peekL_is] at t2
  rw [← hx] at t1 t2
  simp only at t1 t2
  have T1 := Lib.hid t1
  have T2 := Lib.hid t2
  clear hST hQ hk t1 t2 hx
  unfold frame
  rw [h5, h6, h8, h9, h10, h50]
  clear h5 h6 h8 h9 h10 h50
  conv => arg 2; whnf
  go_wp2_with fail
  refine T1.out.mono ?_
  rintro e w4 ⟨rfl, h4⟩
  obtain ⟨p0, p1, p2, p3, pl⟩ := h4.cells
  have T3 := Lib.hid (h4.at_ (L1' := takeL L a.a) (C1' := C) (L2' := takeL L a.a) (C2' := C) (c' := c) (T2.out.left (holdNX _ _ _ _) (holdRN _ _ _)))
  clear h4 T1 o0 o1 o2 o3 ol
  go_wp2_with fail
  refine T3.out.mono ?_
  rintro e w5 ⟨rfl, h5⟩
  have H5 := Lib.hid h5
  clear h5 p0 p1 p2 p3 pl T3
  go_wp2_with fail
  exact HQ.out _ _ _ _ _ _ ⟨rfl, rfl, rfl, rfl, rfl, rfl, rfl, rfl, rfl⟩ (Nat.le_succ _) (Nat.le_succ _) H5.out
theorem sw_cut (f : Nat → Value) (w w3 : World) (g r ob c : Nat) (L : List Pk) (C : List (Int × Int)) (a : St14) (Q : Exit → Act → World → Prop) (hST : StN w w3 g r ob c L C L C a) (hc : c ≤ 1000) (hC : C.length ≤ 1000)
    (h5 : f 5 = .pointer (some ⟨g, 0, none⟩)) (h6 : f 6 = .pointer (some ⟨r, 0, none⟩)) (h8 : f 8 = .pointer (some ⟨ob, 0, none⟩)) (h9 : f 9 = .bool false) (h10 : f 10 = .bool false) (h50 : f 50 = .int .i64 a.k)
    (hQ : SwQ f w g r ob c C a Q) (hw : InR (a.a, a.b)) (hk : a.k = 6 ∨ a.k = 7) : Code.wp Try.prog swL Q ⟨frame f, []⟩ w3 := by
  obtain ⟨o0, o1, o2, o3, ol⟩ := hST.cells
  have HST := Lib.hid hST
  have HQ := Lib.hid hQ
  have HL := Lib.hid hST.len
  have e1 : (a.k == 1) = false := by simp; omega
  have e2 : (a.k == 2) = false := by simp; omega
  have e3 : (a.k == 3) = false := by simp; omega
  have e4 : (a.k == 4) = false := by simp; omega
  have e5 : (a.k == 5) = false := by simp; omega
  obtain ⟨B, hB⟩ : ∃ B, (a.k == 6) = B := ⟨_, rfl⟩
  have hB7 : B = false → (a.k == 7) = true := fun e => by
    rw [e] at hB
    have h6 : a.k ≠ 6 := by simpa using hB
    simp
    omega
  have T1 := Lib.hid (hST.at_ (L1' := L) (C1' := cutF C a.a a.b B) (L2' := L) (C2' := C) (c' := c + 1) (Turns.left (A' := NX g (c + 1) L (cutF C a.a a.b B)) (holdNX _ _ _ _) (holdRN _ _ _) fun S W hS h => (tcut (g := g) (c := c) (L := L) (C := C) a.a a.b hw B (by omega) S W hS h).mono fun _ _ ⟨he, hn, hm⟩ => ⟨he, .inl hn, hm⟩))
  have T2 := Lib.hid (uCut (r := r) (L := L) (C := C) a.a a.b B (by omega))
  have HCL := Lib.hid (cutF_len C a.a a.b B)
  clear hST hQ hk hw hc hC
  unfold frame
  rw [h5, h6, h8, h9, h10, h50]
  clear h5 h6 h8 h9 h10 h50
  conv => arg 2; whnf
  cases B with
  | true =>
    clear hB7
    go_wp2_with fail
    refine T1.out.mono ?_
    rintro e w4 ⟨rfl, h4⟩
    obtain ⟨p0, p1, p2, p3, pl⟩ := h4.cells
    have T3 := Lib.hid (h4.at_ (L1' := L) (C1' := cutF C a.a a.b true) (L2' := L) (C2' := cutF C a.a a.b true) (c' := c + 1) (T2.out.right (holdNX _ _ _ _) (holdRN _ _ _)))
    clear h4 T1 o0 o1 o2 o3 ol
    go_wp2_with fail
    refine T3.out.mono ?_
    rintro e w5 ⟨rfl, h5⟩
    have H5 := Lib.hid h5
    clear h5 p0 p1 p2 p3 pl T3
    go_wp2_with fail
    exact HQ.out _ _ _ _ _ _ ⟨rfl, rfl, rfl, rfl, rfl, rfl, rfl, rfl, rfl⟩ (Nat.le_refl _) HCL.out H5.out
  | false =>
    replace hB7 := hB7 rfl
    go_wp2_with fail
    refine T1.out.mono ?_
    rintro e w4 ⟨rfl, h4⟩
    obtain ⟨p0, p1, p2, p3, pl⟩ := h4.cells
    have T3 := Lib.hid (h4.at_ (L1' := L) (C1' := cutF C a.a a.b false) (L2' := L) (C2' := cutF C a.a a.b false) (c' := c + 1) (T2.out.right (holdNX _ _ _ _) (holdRN _ _ _)))
    clear h4 T1 o0 o1 o2 o3 ol
    go_wp2_with fail
    refine T3.out.mono ?_
    rintro e w5 ⟨rfl, h5⟩
    have H5 := Lib.hid h5
    clear h5 p0 p1 p2 p3 pl T3
    go_wp2_with fail
    exact HQ.out _ _ _ _ _ _ ⟨rfl, rfl, rfl, rfl, rfl, rfl, rfl, rfl, rfl⟩ (Nat.le_refl _) HCL.out H5.out
end Go.Proofs.Ytkfbljbhdjnggaa
