/- Package sess: Take. -/
import Derived.Test.YtbpcbdlmkoajdaaSesH
namespace Go.Proofs.Ytbpcbdlmkoajdaa
open Go Go.RowKit Go.Maps SesP
set_option maxRecDepth 100000
set_option maxHeartbeats 4000000
set_option linter.unusedSimpArgs false
section
variable {g p q m nn c : Nat} {s : Ses} {S : Nat → Prop} {w : World}
/-- While Take goes on: the frame's own block b, the session beside it. -/
structure TakS (g p q m b cc : Nat) (f : Frm) (S : Nat → Prop) (w : World) (s : Ses) (W : World) : Prop where
  sr : ∃ nn, nn ≤ cc ∧ SR g p q m nn s (fun k => S k ∧ k ≠ b) W
  frm : Sits W b 34 #[.int .i64 f.f, .int .i64 f.t, .int .i64 f.m, .int .i64 f.y, .int .i64 f.s, .int .i64 f.a, .string (str f.d), .bool f.h]
  low : w.heap.size ≤ b
  many : Many S w W
theorem TakS.below {b cc : Nat} {f : Frm} {W W' : World} (h : TakS g p q m b cc f S w s W) (hb : Below W.heap.size W W') : TakS g p q m b cc f S w s W' := by
  obtain ⟨nn, h1, h2⟩ := h.sr
  exact ⟨⟨nn, h1, h2.below hb⟩, h.frm.below' hb, h.low, h.many.trans (Many.of_below S hb)⟩
theorem TakS.many_ {b cc cc' : Nat} {f : Frm} {s' : Ses} {nn' : Nat} {W W' : World} (h : TakS g p q m b cc f S w s W) (hm : Many (fun k => S k ∧ k ≠ b) W W') (h1 : nn' ≤ cc') (h2 : SR g p q m nn' s' (fun k => S k ∧ k ≠ b) W') : TakS g p q m b cc' f S w s' W' :=
  ⟨⟨nn', h1, h2⟩, (hm.block b h.frm.lt fun e => e.2 rfl).trans h.frm, h.low, h.many.trans (hm.mono fun _ _ hk => hk.1)⟩
theorem TakS.hS {b cc : Nat} {f : Frm} {W : World} (hS : ∀ k, w.heap.size ≤ k → S k) (h : TakS g p q m b cc f S w s W) : ∀ k, W.heap.size ≤ k → S k ∧ k ≠ b := fun k hk => ⟨hS k (Nat.le_trans h.many.size hk), by have := h.frm.lt; omega⟩
theorem TakS.owed {b cc : Nat} {f : Frm} {W : World} (h : TakS g p q m b cc f S w s W) : W.cell? ⟨g, 8, none⟩ = some (.bool s.o) ∧ W.frozen? ⟨g, 8, none⟩ = false ∧ g < W.heap.size ∧ TakS g p q m b cc f S w { s with o := true } (W.setCell ⟨g, 8, none⟩ (.bool true)) := by
  obtain ⟨nn, h1, h2⟩ := h.sr
  have h3 := h2.cell 8 (.bool true) (s' := { s with o := true }) rfl rfl rfl
  exact ⟨h2.cells.2.2.2.2.2.2.2.2.1, h2.sits.warm 8, h2.sits.lt, h.many_ h3.2 h1 h3.1⟩
theorem TakS.frs {b cc : Nat} {f : Frm} {W : World} (h : TakS g p q m b cc f S w s W) : W.cell? ⟨b, 0, none⟩ = some (.int .i64 f.f) ∧ W.cell? ⟨b, 1, none⟩ = some (.int .i64 f.t) ∧ W.cell? ⟨b, 2, none⟩ = some (.int .i64 f.m) ∧ W.cell? ⟨b, 3, none⟩ = some (.int .i64 f.y) ∧ W.cell? ⟨b, 4, none⟩ = some (.int .i64 f.s) ∧
    W.cell? ⟨b, 5, none⟩ = some (.int .i64 f.a) ∧ W.cell? ⟨b, 6, none⟩ = some (.string (str f.d)) ∧ W.cell? ⟨b, 7, none⟩ = some (.bool f.h) ∧ b < W.heap.size := ⟨h.frm.cell 0, h.frm.cell 1, h.frm.cell 2, h.frm.cell 3, h.frm.cell 4, h.frm.cell 5, h.frm.cell 6, h.frm.cell 7, h.frm.lt⟩
theorem TakS.ses {b cc : Nat} {f : Frm} {W : World} (h : TakS g p q m b cc f S w s W) : W.cell? ⟨g, 2, none⟩ = some (.int .i64 s.m) ∧ W.cell? ⟨g, 3, none⟩ = some (.int .i64 s.y) ∧ g < W.heap.size ∧ s.W.length ≤ 64 := by
  obtain ⟨nn, h1, h2⟩ := h.sr
  exact ⟨h2.cells.2.2.1, h2.cells.2.2.2.1, h2.sits.lt, h2.len⟩
theorem TakS.weak {b cc cc' : Nat} {f : Frm} {W : World} (h : TakS g p q m b cc f S w s W) (hc : cc ≤ cc') : TakS g p q m b cc' f S w s W := by
  obtain ⟨nn, h1, h2⟩ := h.sr
  exact ⟨⟨nn, Nat.le_trans h1 hc, h2⟩, h.frm, h.low, h.many⟩
/-- What it comes to. -/
theorem TakS.fin {b cc : Nat} {f : Frm} {W : World} (h : TakS g p q m b cc f S w s W) (hN : Near cc s) : SN g cc s S W ∧ Many S w W := by
  obtain ⟨nn, h1, h2⟩ := h.sr
  exact ⟨⟨p, q, m, nn, h2.mono fun _ hk => hk.1, h1, hN⟩, h.many⟩

theorem stake_any (hS : ∀ k, w.heap.size ≤ k → S k) (h : SN g c s S w) (f : Frm) (hf : FrmIn f) (hc : c + 1 ≤ 100000000) :
    Calls Try.prog 10 #[.pointer (some ⟨g, 0, none⟩), aggF f] w fun e w' => (∃ v, e = .returned (.tuple #[v, .bool (isFor s f)]) ∧ TRow w' w.heap.size v (takeL s f)) ∧ SN g (c + 1) (takeS s f) S w' ∧ Many S w w' := by
  have hN := h.near
  obtain ⟨p, q, m, nn, h, hnn, -⟩ := h
  have HS := Lib.hid hS
  obtain ⟨w0, hw0⟩ : ∃ W, W = w.alloc (.cells #[.int .i64 f.f, .int .i64 f.t, .int .i64 f.m, .int .i64 f.y, .int .i64 f.s, .int .i64 f.a, .string (str f.d), .bool f.h] 34) := ⟨_, rfl⟩
  have hb0 : Below w.heap.size w w0 := hw0 ▸ (Below.refl _ w).alloc (Nat.le_refl _) _
  have h0 : TakS g p q m w.heap.size c f S w s w0 := ⟨⟨nn, hnn, (h.less.below hb0).mono fun k hk => ⟨hk.1, by have := hk.2; omega⟩⟩, hw0 ▸ Sits.fresh w _ _, Nat.le_refl _, Many.of_below S hb0⟩
  have HR := Lib.hid (sready_yes (h.below hb0))
  have HI : Hid (∀ W, TakS g p q m w.heap.size c f S w s W → Calls Try.prog 21 #[.pointer (some ⟨g, 0, none⟩), aggF f] W fun e w' => e = .returned (.bool (isFor s f)) ∧ TakS g p q m w.heap.size c f S w s w') := Lib.hid fun W hW => by
    obtain ⟨n1, h1, h2⟩ := hW.sr
    exact (isFor_any h2 f).mono fun e w' ⟨he, hb⟩ => ⟨he, hW.below hb⟩
  have HM : Hid (∀ W, TakS g p q m w.heap.size c f S w s W → Calls Try.prog 22 #[.pointer (some ⟨g, 0, none⟩), .int .i64 f.m] W fun e w' => e = .returned (.tuple #[]) ∧ TakS g p q m w.heap.size c f S w (meetS s f.m) w') := Lib.hid fun W hW => by
    obtain ⟨n1, h1, h2⟩ := hW.sr
    exact (smeet_any (hW.hS hS) h2 f.m).mono fun e w' ⟨he, hs, hm⟩ => ⟨he, hW.many_ hm (Nat.zero_le _) hs⟩
  have hN1 := near_met hN f
  have hk1 : (metS s f).k ≤ 10000000000 := by have := hN1.k; omega
  have hn1 : (metS s f).n ≤ 10000000000 := by have := hN1.n; omega
  have HFR : Hid (∀ W, TakS g p q m w.heap.size c f S w (metS s f) W → Calls Try.prog 23 #[.pointer (some ⟨g, 0, none⟩), .int .i64 f.a] W fun e w' => e = .returned (.tuple #[]) ∧ TakS g p q m w.heap.size c f S w (freeS (metS s f) f.a) w') := Lib.hid fun W hW => by
    obtain ⟨n1, h1, h2⟩ := hW.sr
    exact (sfree_any (hW.hS hS) h2 hk1 f.a hf.a).mono fun e w' ⟨he, hs, hm⟩ => ⟨he, hW.many_ hm h1 hs⟩
  have hnf : (freeS (metS s f) f.a).n = (metS s f).n := by unfold freeS; split <;> rfl
  have hmet0 : metS s f = s ∨ metS s f = meetS s f.m := by unfold metS; split; exact .inr rfl; exact .inl rfl
  have HH : Hid (∀ W, TakS g p q m w.heap.size c f S w { freeS (metS s f) f.a with o := true } W → Calls Try.prog 24 #[.pointer (some ⟨g, 0, none⟩), .int .i64 f.s, .string (str f.d)] W fun e w' => e = .returned (.tuple #[]) ∧ TakS g p q m w.heap.size (c + 1) f S w (hearS { freeS (metS s f) f.a with o := true } f.s f.d) w') := Lib.hid fun W hW => by
    obtain ⟨n1, h1, h2⟩ := hW.sr
    refine (shear_any h2 (by show (freeS (metS s f) f.a).n ≤ _; rw [hnf]; exact hn1) (by omega) f.s hf.s f.d).mono ?_
    rintro e w' ⟨he, ⟨nn', h3, hs⟩, hm⟩
    exact ⟨he, hW.many_ hm (by omega) hs⟩
  have hT : Hid (∀ W, TakS g p q m w.heap.size (c + 1) f S w (hearS { freeS (metS s f) f.a with o := true } f.s f.d) W → Calls Try.prog 25 #[.pointer (some ⟨g, 0, none⟩)] W fun e w' => (∃ v, e = .returned v ∧ TRow w' w.heap.size v (toldL (hearS { freeS (metS s f) f.a with o := true } f.s f.d).A 66 (hearS { freeS (metS s f) f.a with o := true } f.s f.d).n)) ∧ SN g (c + 1) (toldS (hearS { freeS (metS s f) f.a with o := true } f.s f.d)) S w' ∧ Many S w w') := Lib.hid fun W hW => by
    obtain ⟨n1, h1, h2⟩ := hW.sr
    have hl64 : (metS s f).W.length ≤ 64 := by
      have hs := h.len
      rcases hmet0 with e | e
      · rw [e]; exact hs
      · rw [e]
        show ((if 0 < s.y then [] else s.W).map now).length ≤ 64
        rw [List.length_map]
        split
        · simp
        · exact hs
    obtain ⟨k1, k2⟩ := near_told hN1 hl64 hc f
    refine (stold_any (hW.hS hS) h2 (by have := k1.n; omega) k1).mono ?_
    rintro e w' ⟨⟨v, he, hr⟩, hs, hm⟩
    have hZ := (hW.many_ (cc' := c + 1) hm h1 hs).fin k2
    exact ⟨⟨v, he, hr.base_ hW.many.size⟩, hZ⟩
  have hl64 : (metS s f).W.length ≤ 64 := by
    have hs := h.len
    rcases hmet0 with e | e
    · rw [e]; exact hs
    · rw [e]
      show ((if 0 < s.y then [] else s.W).map now).length ≤ 64
      rw [List.length_map]
      split
      · simp
      · exact hs
  have hmm : (metS s f).m = s.m := by rcases hmet0 with e | e <;> rw [e]; rfl
  have HE0 : Hid (isFor s f = false → ∀ W, TakS g p q m w.heap.size c f S w s W → TRow W w.heap.size (.slice none 0 0) (takeL s f) ∧ SN g (c + 1) (takeS s f) S W ∧ Many S w W) := Lib.hid fun e W hW => by
    have e1 : takeL s f = [] := by unfold takeL; rw [if_pos e]
    have e2 : takeS s f = s := by unfold takeS; rw [if_pos e]
    rw [e1, e2]
    exact ⟨RowAt.nil _ _ _ _, (hW.weak (Nat.le_succ c)).fin (hN.more (Nat.le_succ c) hc)⟩
  have HE1 : Hid (isFor s f = true → f.y ≠ s.m → ∀ W, TakS g p q m w.heap.size c f S w { metS s f with o := true } W → TRow W w.heap.size (.slice none 0 0) (takeL s f) ∧ SN g (c + 1) (takeS s f) S W ∧ Many S w W) := Lib.hid fun e hy W hW => by
    have e1 : takeL s f = [] := by unfold takeL; rw [e, hmm, if_neg (by simp), if_pos hy]
    have e2 : takeS s f = { metS s f with o := true } := by unfold takeS; rw [e, hmm, if_neg (by simp), if_pos hy]
    rw [e1, e2]
    exact ⟨RowAt.nil _ _ _ _, (hW.weak (Nat.le_succ c)).fin ((near_owed hN1 true).more (Nat.le_succ c) hc)⟩
  have HE2 : Hid (isFor s f = true → f.y = s.m → f.h = false → ∀ W, TakS g p q m w.heap.size c f S w (freeS (metS s f) f.a) W → TRow W w.heap.size (.slice none 0 0) (takeL s f) ∧ SN g (c + 1) (takeS s f) S W ∧ Many S w W) := Lib.hid fun e hy hh W hW => by
    have e1 : takeL s f = [] := by unfold takeL; rw [e, hmm, hh, if_neg (by simp), if_neg (fun h => h hy), if_pos rfl]
    have e2 : takeS s f = freeS (metS s f) f.a := by unfold takeS; rw [e, hmm, hh, if_neg (by simp), if_neg (fun h => h hy), if_pos rfl]
    rw [e1, e2]
    exact ⟨RowAt.nil _ _ _ _, (hW.weak (Nat.le_succ c)).fin (near_free1 hN1 hl64 hc f.a)⟩
  have HE3 : Hid (isFor s f = true → f.y = s.m → f.h = true → takeL s f = toldL (hearS { freeS (metS s f) f.a with o := true } f.s f.d).A 66 (hearS { freeS (metS s f) f.a with o := true } f.s f.d).n ∧ takeS s f = toldS (hearS { freeS (metS s f) f.a with o := true } f.s f.d)) := Lib.hid fun e hy hh => by
    constructor
    · unfold takeL; rw [e, hmm, hh, if_neg (by simp), if_neg (fun h => h hy), if_neg (by simp)]
    · unfold takeS; rw [e, hmm, hh, if_neg (by simp), if_neg (fun h => h hy), if_neg (by simp)]
  have HMS : Hid (s.y < f.m → metS s f = meetS s f.m) := Lib.hid fun h => by unfold metS; rw [if_pos h]
  have HMN : Hid (f.m ≤ s.y → metS s f = s) := Lib.hid fun h => by unfold metS; rw [if_neg (Int.not_lt.2 h)]
  have hmeet : (meetS s f.m).m = s.m := rfl
  obtain ⟨K, hK⟩ : ∃ K, K = metS s f := ⟨_, rfl⟩
  rw [← hK] at HFR HH hT HE1 HE2 HE3 HMS HMN hmm
  have H0 := Lib.hid h0
  have HMM := Lib.hid hmm
  clear hS h hN hnn hb0 h0 hN1 hk1 hn1 hnf hmet0 hl64 hK hmm hc hf
  unfold aggF at HI ⊢
  have HW0 := Lib.hid hw0
  clear hw0
  obtain ⟨z0, z1, z2, z3, z4, z5, z6, z7, hbl⟩ := H0.out.frs
  go_enter Try.func10, Try.ntmps10
  go_wp2_with fail
  rw [← HW0.out]
  clear HW0
  refine HR.out.mono ?_
  rintro e w' ⟨rfl, rfl⟩
  go_wp2_with fail
  clear z0 z1 z2 z3 z4 z5 z6 z7 hbl
  refine (HI.out _ H0.out).mono ?_
  rintro e w1 ⟨rfl, h1⟩
  have H1 := Lib.hid h1
  clear h1 H0 HI HR
  obtain ⟨B, hB⟩ : ∃ B, B = isFor s f := ⟨_, rfl⟩
  rw [← hB] at HE0 HE1 HE2 HE3 ⊢
  have HB := Lib.hid hB.symm
  clear hB
  cases B with
  | false =>
    have HZ := Lib.hid (HE0.out rfl _ H1.out)
    clear HE0 HE1 HE2 HE3 H1
    go_wp2
    go_ret2
    exact ⟨⟨.slice none 0 0, by rw [HB.out]; rfl, HZ.out.1⟩, HZ.out.2⟩
  | true =>
    replace HE1 := Lib.hid (HE1.out rfl)
    replace HE2 := Lib.hid (HE2.out rfl)
    replace HE3 := Lib.hid (HE3.out rfl)
    obtain ⟨-, -, z2, -, -, -, -, -, hbl⟩ := H1.out.frs
    obtain ⟨-, y3, hgl, -⟩ := H1.out.ses
    by_cases hm : s.y < f.m
    · have dm : decide (s.y < f.m) = true := decide_eq_true hm
      have hKm := HMS.out hm
      have HM2 : Hid (∀ n, _) := Lib.hid fun n : Nat => HM.out _ (H1.out.below (below_drewN (Below.refl _ _) n))
      have HFM : Hid (∀ n, _) := Lib.hid fun n : Nat => (H1.out.below (below_drewN (Below.refl _ _) n)).frs
      clear hm HM HMS HMN H1
      go_wp2_with fail
      go_quiet (fail)
      clear z2 y3 hbl hgl
      obtain ⟨-, -, z2, -, -, -, -, -, hbl⟩ := HFM.out nq
      clear HFM
      go_wp2_with fail
      clear z2 dm hbl
      refine (HM2.out _).mono ?_
      rintro e w2 ⟨rfl, h2⟩
      rw [← hKm] at h2
      have H2 := Lib.hid h2
      clear h2 HM2 hKm hmeet
      obtain ⟨-, -, -, z3, -, z5, -, z7, hbl⟩ := H2.out.frs
      obtain ⟨y2, -, hgl, -⟩ := H2.out.ses
      rw [HMM.out] at y2
      by_cases hy : f.y = s.m
      rotate_left
      · have dy : (f.y != s.m) = true := bne_iff_ne.2 hy
        have HO : Hid (∀ W, Below w2.heap.size w2 W → _) := Lib.hid fun W hW => (H2.out.below hW).owed
        have HE1' := Lib.hid (HE1.out hy)
        clear HE0 HE1 HE2 HE3 hy z5 z7
        go_wp2_with fail
        go_quiet (fail)
        clear z3 y2 hbl hgl
        obtain ⟨o8, of8, hgl, h2⟩ := HO.out _ (below_drewN (Below.refl _ w2) nq)
        have HZ := Lib.hid (HE1'.out _ h2)
        clear h2 HO HE1'
        go_wp2
        go_ret2
        exact ⟨⟨.slice none 0 0, by rw [HB.out]; rfl, HZ.out.1⟩, HZ.out.2⟩
      have dy : (f.y != s.m) = false := bne_eq_false_iff_eq.2 hy
      have HY := Lib.hid hy
      have HF2 : Hid (∀ W, Below w2.heap.size w2 W → _) := Lib.hid fun W hW => HFR.out W (H2.out.below hW)
      have HFA := Lib.hid H2.out.frs
      clear hy HE0 HE1 z7 z5
      go_wp2_with fail
      go_quiet (fail)
      clear z3 y2 hbl hgl
      obtain ⟨-, -, -, -, -, z5, -, -, hbl⟩ := HFA.out
      clear HFA
      go_wp2_with fail
      clear z5 hbl dy
      refine (HF2.out _ (below_drewN (Below.refl _ w2) nq)).mono ?_
      rintro e w3 ⟨rfl, h3⟩
      have H3 := Lib.hid h3
      clear h3 HF2 H2 HFR
      obtain ⟨-, -, -, -, z4, -, z6, z7, hbl⟩ := H3.out.frs
      obtain ⟨Bh, hBh⟩ : ∃ B, B = f.h := ⟨_, rfl⟩
      rw [← hBh] at z7 HE2 HE3
      clear hBh
      cases Bh with
      | false =>
        have HZ := Lib.hid (HE2.out HY.out rfl _ H3.out)
        clear HE2 HE3 H3 z4 z6
        go_wp2
        go_ret2
        exact ⟨⟨.slice none 0 0, by rw [HB.out]; rfl, HZ.out.1⟩, HZ.out.2⟩
      | true =>
        obtain ⟨o8, of8, hgl, h4⟩ := H3.out.owed
        obtain ⟨W4, hW4⟩ : ∃ W, W = w3.setCell ⟨g, 8, none⟩ (.bool true) := ⟨_, rfl⟩
        rw [← hW4] at h4
        obtain ⟨-, -, -, -, x4, -, x6, -, hbl4⟩ := h4.frs
        have HH4 := Lib.hid (HH.out _ h4)
        obtain ⟨E3a, E3b⟩ := HE3.out HY.out rfl
        have HE := Lib.hid (And.intro E3a E3b)
        clear h4 E3a E3b HE2 HE3 HH H3 z4 z6
        go_upto_region 12 with fail
        rw [← hW4]
        clear hW4 o8 of8 z7 hgl
        go_wp2_with fail
        clear x4 x6
        refine HH4.out.mono ?_
        rintro e w5 ⟨rfl, h5⟩
        have HT := Lib.hid (hT.out _ h5)
        clear h5 HH4 hT
        go_wp2_with fail
        refine HT.out.mono ?_
        rintro e w6 ⟨⟨v, rfl, hr⟩, hs⟩
        have HZ := Lib.hid (And.intro hr hs)
        clear hr hs HT
        go_wp2
        go_ret2
        rw [HE.out.1, HE.out.2]
        exact ⟨⟨v, by rw [HB.out]; rfl, HZ.out.1⟩, HZ.out.2⟩
    · have dm : decide (s.y < f.m) = false := decide_eq_false hm
      have hKm := HMN.out (Int.not_lt.1 hm)
      have h2 := H1.out
      rw [← hKm] at h2
      have H2 := Lib.hid h2
      clear h2 hm HM HMS HMN H1 hKm hmeet
      go_wp2_with fail
      go_quiet (fail)
      clear z2 y3 hbl hgl
      obtain ⟨wq, hwq⟩ : ∃ x, x = w1.drewN nq := ⟨_, rfl⟩
      have H2 : Hid (TakS g p q m w.heap.size c f S w K wq) := Lib.hid (by rw [hwq]; exact H2.out.below (below_drewN (Below.refl _ _) nq))
      rw [← hwq]
      clear hwq
      go_upto_region 5 with fail
      clear dm
      obtain ⟨-, -, -, z3, -, z5, -, z7, hbl⟩ := H2.out.frs
      obtain ⟨y2, -, hgl, -⟩ := H2.out.ses
      rw [HMM.out] at y2
      by_cases hy : f.y = s.m
      rotate_left
      · have dy : (f.y != s.m) = true := bne_iff_ne.2 hy
        have HO : Hid (∀ W, Below wq.heap.size wq W → _) := Lib.hid fun W hW => (H2.out.below hW).owed
        have HE1' := Lib.hid (HE1.out hy)
        clear HE0 HE1 HE2 HE3 hy z5 z7
        go_wp2_with fail
        go_quiet (fail)
        clear z3 y2 hbl hgl
        obtain ⟨o8, of8, hgl, h2⟩ := HO.out _ (below_drewN (Below.refl _ wq) nq)
        have HZ := Lib.hid (HE1'.out _ h2)
        clear h2 HO HE1'
        go_wp2
        go_ret2
        exact ⟨⟨.slice none 0 0, by rw [HB.out]; rfl, HZ.out.1⟩, HZ.out.2⟩
      have dy : (f.y != s.m) = false := bne_eq_false_iff_eq.2 hy
      have HY := Lib.hid hy
      have HF2 : Hid (∀ W, Below wq.heap.size wq W → _) := Lib.hid fun W hW => HFR.out W (H2.out.below hW)
      have HFA := Lib.hid H2.out.frs
      clear hy HE0 HE1 z7 z5
      go_wp2_with fail
      go_quiet (fail)
      clear z3 y2 hbl hgl
      obtain ⟨-, -, -, -, -, z5, -, -, hbl⟩ := HFA.out
      clear HFA
      go_wp2_with fail
      clear z5 hbl dy
      refine (HF2.out _ (below_drewN (Below.refl _ wq) nq)).mono ?_
      rintro e w3 ⟨rfl, h3⟩
      have H3 := Lib.hid h3
      clear h3 HF2 H2 HFR
      obtain ⟨-, -, -, -, z4, -, z6, z7, hbl⟩ := H3.out.frs
      obtain ⟨Bh, hBh⟩ : ∃ B, B = f.h := ⟨_, rfl⟩
      rw [← hBh] at z7 HE2 HE3
      clear hBh
      cases Bh with
      | false =>
        have HZ := Lib.hid (HE2.out HY.out rfl _ H3.out)
        clear HE2 HE3 H3 z4 z6
        go_wp2
        go_ret2
        exact ⟨⟨.slice none 0 0, by rw [HB.out]; rfl, HZ.out.1⟩, HZ.out.2⟩
      | true =>
        obtain ⟨o8, of8, hgl, h4⟩ := H3.out.owed
        obtain ⟨W4, hW4⟩ : ∃ W, W = w3.setCell ⟨g, 8, none⟩ (.bool true) := ⟨_, rfl⟩
        rw [← hW4] at h4
        obtain ⟨-, -, -, -, x4, -, x6, -, hbl4⟩ := h4.frs
        have HH4 := Lib.hid (HH.out _ h4)
        obtain ⟨E3a, E3b⟩ := HE3.out HY.out rfl
        have HE := Lib.hid (And.intro E3a E3b)
        clear h4 E3a E3b HE2 HE3 HH H3 z4 z6
        go_upto_region 12 with fail
        rw [← hW4]
        clear hW4 o8 of8 z7 hgl
        go_wp2_with fail
        clear x4 x6
        refine HH4.out.mono ?_
        rintro e w5 ⟨rfl, h5⟩
        have HT := Lib.hid (hT.out _ h5)
        clear h5 HH4 hT
        go_wp2_with fail
        refine HT.out.mono ?_
        rintro e w6 ⟨⟨v, rfl, hr⟩, hs⟩
        have HZ := Lib.hid (And.intro hr hs)
        clear hr hs HT
        go_wp2
        go_ret2
        rw [HE.out.1, HE.out.2]
        exact ⟨⟨v, by rw [HB.out]; rfl, HZ.out.1⟩, HZ.out.2⟩
end
end Go.Proofs.Ytbpcbdlmkoajdaa
