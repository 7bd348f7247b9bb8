/- SpanTells' second loop: the lists compared; the blocks of a list. -/
import Derived.Test.YtehnobcjoaclcaaGreatStD
namespace Go.Proofs.YtehnobcjoaclcaaGreat
open Go Go.RowKit SpanP
set_option maxRecDepth 1000000
set_option maxHeartbeats 4000000
set_option linter.unusedSimpArgs false

/-- All that is compared is the same. -/
theorem test_any (f : Nat → Value) (lo : Nat) (W : World) (va vb : Value) (a b X L D R : List S) (m n x al o p q r : Value) (t0 t1 t2 t3 t4 : Nat) (hLs : Ls lo W a b X L D R m n x al o p q r t0 t1 t2 t3 t4) (hS : Sets a b X L D R) (ha : a.length ≤ 40) (hb : b.length ≤ 40) (hA : Spans W va a) (hB : Spans W vb b) (Q : Exit → Act → World → Prop)
    (h0 : f 0 = va) (h1 : f 1 = vb) (h19 : f 19 = m) (h20 : f 20 = n) (h21 : f 21 = x) (h22 : f 22 = al) (h23 : f 23 = o) (h24 : f 24 = p) (h25 : f 25 = q) (h26 : f 26 = r)
    (hQ : ∀ a' W', Keep3 va vb (f 3) (f 9) (f 18) m n x al o p q r a' → Below W.heap.size W W' → Code.wp Tryz.prog moreL Q a' W') :
    Code.wp Tryz.prog testL Q ⟨frame f, []⟩ W := by
  have HQ := Lib.hid hQ
  have HLS := Lib.hid hLs
  have HS := Lib.hid hS
  have HA := Lib.hid hA
  have HB := Lib.hid hB
  have HL := Lib.hid (And.intro ha hb)
  clear hQ hLs hS hA hB ha hb
  unfold frame
  rw [h0, h1, h19, h20, h21, h22, h23, h24, h25, h26]
  clear h0 h1 h19 h20 h21 h22 h23 h24 h25 h26
  rw [test_split]
  conv => arg 2; arg 1; whnf
  go_wp2_with fail
  refine (eqSpans_yes _ _ X _ HLS.out.so.spans HLS.out.sx.spans).mono ?_
  rintro e w1 ⟨rfl, k1, hw1⟩
  have B1 : Hid (Below W.heap.size W w1) := Lib.hid (hw1 ▸ below_drewN (Below.refl _ _) _)
  clear hw1
  go_wp2_with fail
  refine (eqSpans_yes _ _ L _ (HLS.out.below B1.out).sp.spans (HLS.out.below B1.out).sl.spans).mono ?_
  rintro e w2 ⟨rfl, k2, hw2⟩
  have B2 : Hid (Below W.heap.size W w2) := Lib.hid (hw2 ▸ below_drewN B1.out _)
  clear hw2
  go_wp2_with fail
  refine (refminus_any _ _ a b _ (HA.out.below B2.out) (HB.out.below B2.out) (by have := HL.out; omega) (by have := HL.out; omega)).mono ?_
  rintro e w3 ⟨r3, M, rfl, hr3, hM, -, hb3⟩
  obtain rfl : M = D := hM.eq HS.out.d fun _ => Iff.rfl
  have B3 := Lib.hid (B2.out.trans (hb3.mono B2.out.size))
  have H3 := Lib.hid hr3
  clear hr3 hM hb3
  go_wp2_with fail
  refine (eqSpans_yes _ _ M _ (HLS.out.below B3.out).sq.spans H3.out.spans).mono ?_
  rintro e w4 ⟨rfl, k4, hw4⟩
  have B4 : Hid (Below W.heap.size W w4) := Lib.hid (hw4 ▸ below_drewN B3.out _)
  clear hw4 H3
  go_wp2_with fail
  refine (refboth_any _ _ a b _ (HA.out.below B4.out) (HB.out.below B4.out) (by have := HL.out; omega) (by have := HL.out; omega)).mono ?_
  rintro e w5 ⟨r5, M5, rfl, hr5, hM5, hb5⟩
  obtain rfl : M5 = R := hM5.eq HS.out.r fun _ => Iff.rfl
  have B5 := Lib.hid (B4.out.trans (hb5.mono B4.out.size))
  have H5 := Lib.hid hr5
  clear hr5 hM5 hb5
  go_wp2_with fail
  refine (eqSpans_yes _ _ M5 _ (HLS.out.below B5.out).sr.spans H5.out.spans).mono ?_
  rintro e w6 ⟨rfl, k6, hw6⟩
  have B6 : Hid (Below W.heap.size W w6) := Lib.hid (hw6 ▸ below_drewN B5.out _)
  clear hw6 H5
  go_wp2_with fail
  refine (covers_any _ _ a b _ (HLS.out.below B6.out).lm.spans (HLS.out.below B6.out).ln.spans (by have := HL.out; omega) (by have := HL.out; omega)).mono ?_
  rintro e w7 ⟨c, rfl, hc, hb7⟩
  have B7 := Lib.hid (B6.out.trans (hb7.mono B6.out.size))
  have HC := Lib.hid hc
  clear hb7 hc
  go_wp2_with fail
  refine (refminus_any _ _ b a _ (HB.out.below B7.out) (HA.out.below B7.out) (by have := HL.out; omega) (by have := HL.out; omega)).mono ?_
  rintro e w8 ⟨r8, M8, rfl, hr8, hM8, -, hb8⟩
  have B8 := Lib.hid (B7.out.trans (hb8.mono B7.out.size))
  obtain ⟨A8, c8, rfl, _, _, _, _⟩ := hr8.form
  obtain ⟨N, hN⟩ : ∃ N, N = M8.length := ⟨_, rfl⟩
  have d8 : ((N : Int) == 0) = c := by
    rw [hN]
    refine Bool.eq_iff_iff.2 ((beq_iff_eq).trans ?_)
    rw [HC.out]
    constructor
    · intro h0 c' hc'
      have : M8 = [] := List.length_eq_zero_iff.1 (by omega)
      by_cases k : In a c'
      · exact k
      · have := (hM8.mem c').2 ⟨hc', k⟩
        rw [‹M8 = []›] at this
        exact absurd this (not_in_nil _)
    · intro h
      have : M8 = [] := by
        cases M8 with
        | nil => rfl
        | cons s t =>
          have h2 := (hM8.mem s.1).1 hM8.norm.first
          exact absurd (h _ h2.1) h2.2
      rw [this]
      rfl
  have hcc : (c != c) = false := by cases c <;> rfl
  rw [← hN]
  clear hN hr8 hM8 hb8 HC
  go_wp2_with fail
  refine (staysSpans_yes _ _ a lo _ (HLS.out.below B8.out).lm (HA.out.below B8.out)).mono ?_
  rintro e w9 ⟨rfl, k9, hw9⟩
  have B9 : Hid (Below W.heap.size W w9) := Lib.hid (hw9 ▸ below_drewN B8.out _)
  clear hw9
  go_wp2_with fail
  refine (staysSpans_yes _ _ b lo _ (HLS.out.below B9.out).ln (HB.out.below B9.out)).mono ?_
  rintro e w10 ⟨rfl, k10, hw10⟩
  have B10 : Hid (Below W.heap.size W w10) := Lib.hid (hw10 ▸ below_drewN B9.out _)
  clear hw10
  go_wp2_with fail
  exact HQ.out _ w10 ⟨rfl, rfl, rfl, rfl, rfl, rfl, rfl, rfl, rfl, rfl, rfl, rfl, rfl, rfl, rfl⟩ B10.out
noncomputable def more2L : Code := rightS moreL
theorem more1_split : moreL = .seq (leftS moreL) more2L := by kernel_rfl
theorem more2_split : more2L = .seq (leftS more2L) (.seq (leftS (rightS more2L)) (.seq (leftS (rightS (rightS more2L))) restL)) := by kernel_rfl
/-- What the last piece of a round asks of a frame. -/
def Keep5 (v0 v1 v3 v9 v18 v21 v27 v28 : Value) (a' : Act) : Prop :=
  a'.defers = [] ∧ a'.tmps.size = 288 ∧ a'.tmps.getD 0 undef = v0 ∧ a'.tmps.getD 1 undef = v1 ∧ a'.tmps.getD 3 undef = v3 ∧ a'.tmps.getD 9 undef = v9 ∧ a'.tmps.getD 18 undef = v18 ∧ a'.tmps.getD 21 undef = v21 ∧ a'.tmps.getD 27 undef = v27 ∧ a'.tmps.getD 28 undef = v28
/-- Blocks, what it says kept. -/
theorem more2_any (f : Nat → Value) (lo : Nat) (W : World) (kb nS nI : Nat) (a b X L D R : List S) (m n x al o p q r : Value) (t0 t1 t2 t3 t4 : Nat) (mm : Int) (hLs : Ls lo W a b X L D R m n x al o p q r t0 t1 t2 t3 t4) (hS : Sets a b X L D R) (ha : a.length ≤ 40) (la : Lim a) (hK : Bk W kb lo nS nI fun g => g < t4) (hnI : nI < 250) (hlo : lo ≤ W.heap.size) (hmm : mm ≤ 3000) (Q : Exit → Act → World → Prop)
    (h3 : f 3 = .int .i64 mm) (h9 : f 9 = .pointer (some ⟨kb, 0, none⟩)) (h19 : f 19 = m) (h21 : f 21 = x)
    (hQ : ∀ a' W' z Z g, Keep5 (f 0) (f 1) (.int .i64 mm) (.pointer (some ⟨kb, 0, none⟩)) (f 18) x z (.bool g) a' → SRow W' lo x X → IRow W' lo z Z → Z = (if g = true then blocks X else []) → (g = true → count X ≤ 3000) → (∃ N, Bk W' kb lo nS (nI + 1) N) → Below lo W W' → Code.wp Tryz.prog restL Q a' W') :
    Code.wp Tryz.prog more2L Q ⟨frame f, []⟩ W := by
  have hlX : Lim X := hS.x.lim fun c hc => la.lt hc
  have hc0 := count_nonneg hS.x.norm
  have hno := fun hc => blocks_no mm m a X W hLs.lm.spans (by omega) la hS.x hmm hc
  have hyes := fun hc => blocks_yes mm m a X W hLs.lm.spans (by omega) la hS.x hmm hc
  have href := fun (h : 0 ≤ mm) W' (hb : Below W.heap.size W W') => refblocks_any mm h hmm x X W' (hLs.below hb).sx.spans hS.x.norm hlX
  have hbl : count X ≤ 3000 → (blocks X).length ≤ 100000 := fun h => by have := blocks_length hS.x.norm; omega
  obtain ⟨C, hC⟩ : ∃ C, C = count X := ⟨_, rfl⟩
  rw [← hC] at hno hyes href hc0 hbl
  have HCC := Lib.hid hC
  have HNO := Lib.hid hno
  have HYES := Lib.hid hyes
  have HREF := Lib.hid href
  have HQ := Lib.hid hQ
  have HLS := Lib.hid hLs
  have HK := Lib.hid hK
  have HL := Lib.hid (And.intro hnI (And.intro hlo (And.intro hmm (And.intro hc0 hbl))))
  have HOR := Lib.hid hLs.ord
  clear hQ hLs hS hK ha la hno hyes href hlX hC hnI hbl
  unfold frame
  rw [h3, h9, h19, h21]
  clear h3 h9 h19 h21
  rw [more2_split]
  conv => arg 2; arg 1; whnf
  conv => arg 2; arg 2; arg 1; whnf
  conv => arg 2; arg 2; arg 2; arg 1; whnf
  by_cases k0 : 0 ≤ mm
  · have d0 : decide (mm ≥ 0) = true := decide_eq_true k0
    have d0' : decide (0 ≤ mm) = true := decide_eq_true k0
    by_cases k1 : C ≤ mm
    · have d1 : decide (C ≤ mm) = true := decide_eq_true k1
      have hx := HYES.out k1
      have HX := Lib.hid hx
      have HRF := Lib.hid (HREF.out k0)
      rw [if_pos k1] at HRF
      have HCM := Lib.hid (And.intro k1 (show C ≤ 3000 by omega))
      clear hx k0 k1 HYES HNO HREF hc0 hlo hmm
      go_wp2_with fail
      refine HX.out.mono ?_
      rintro e w1 ⟨z, rfl, hz, hb1⟩
      have B1 := Lib.hid hb1
      have Hz := Lib.hid hz
      clear hb1 hz
      go_wp2_with fail
      refine (HRF.out _ B1.out).mono ?_
      rintro e w2 ⟨rfl, hb2⟩
      have B2 := Lib.hid (B1.out.trans (hb2.mono B1.out.size))
      have Hz2 := Lib.hid (Hz.out.below hb2)
      clear hb2 Hz
      go_wp2_with fail
      refine (bk_ints (HK.out.below B2.out) (by have := HL.out; omega) (Hz2.out.mono HL.out.2.1) (HL.out.2.2.2.2 HCM.out.2) (fun g e k => by have := (Hz2.out.lt g e).1; have := HOR.out; omega) (Nat.le_trans HL.out.2.1 B2.out.size)).mono ?_
      rintro e w3 ⟨rfl, hk, hm⟩
      have L3 := Lib.hid ((HLS.out.below B2.out).booked hm).sx
      have Hz3 : Hid (IRow w3 lo z (blocks X)) := Lib.hid (hm.kept (Hz2.out.mono HL.out.2.1) fun k hk => by
        obtain ⟨_, s⟩ := Hz2.out.sits k hk
        exact BT.ne s (by decide) (by decide) (by decide))
      have K3 := Lib.hid hk
      have B3 := Lib.hid ((B2.out.mono HL.out.2.1).trans (hm.below (B := lo) (fun k hk => hk.1) (Nat.le_trans HL.out.2.1 B2.out.size)))
      clear hk hm
      go_wp2_with fail
      exact HQ.out _ w3 z _ true ⟨rfl, rfl, rfl, rfl, rfl, rfl, rfl, rfl, rfl, rfl⟩ L3.out Hz3.out (if_pos rfl).symm (fun _ => HCC.out ▸ HCM.out.2) ⟨_, K3.out⟩ B3.out
    · have d1 : decide (mm + 1 ≤ mm) = false := decide_eq_false (by omega)
      have hx := HNO.out (by omega)
      have HX := Lib.hid hx
      have HRF := Lib.hid (HREF.out k0)
      rw [if_neg k1] at HRF
      clear hx k0 k1 HYES HNO HREF hc0 hlo hmm
      go_wp2_with fail
      refine HX.out.mono ?_
      rintro e w1 ⟨rfl, hb1⟩
      have B1 := Lib.hid hb1
      clear hb1
      go_wp2_with fail
      refine (HRF.out _ B1.out).mono ?_
      rintro e w2 ⟨rfl, hb2⟩
      have B2 := Lib.hid (B1.out.trans (hb2.mono B1.out.size))
      clear hb2
      go_wp2_with fail
      refine (bk_ints (x := .slice none 0 0) (l := []) (HK.out.below B2.out) (by have := HL.out; omega) (RowAt.nil _ _ _ _) (by simp) (fun g e k => by simp [Value.ownBlock] at e) (Nat.le_trans HL.out.2.1 B2.out.size)).mono ?_
      rintro e w3 ⟨rfl, hk, hm⟩
      have L3 := Lib.hid ((HLS.out.below B2.out).booked hm).sx
      have K3 := Lib.hid hk
      have B3 := Lib.hid ((B2.out.mono HL.out.2.1).trans (hm.below (B := lo) (fun k hk => hk.1) (Nat.le_trans HL.out.2.1 B2.out.size)))
      clear hk hm
      go_wp2_with fail
      exact HQ.out _ w3 _ [] false ⟨rfl, rfl, rfl, rfl, rfl, rfl, rfl, rfl, rfl, rfl⟩ L3.out (RowAt.nil _ _ _ _) rfl (fun h => by cases h) ⟨_, K3.out⟩ B3.out
  · have d0 : decide (mm ≥ 0) = false := decide_eq_false k0
    have d0' : decide (0 ≤ mm) = false := decide_eq_false k0
    have hx := HNO.out (by omega)
    have HX := Lib.hid hx
    clear hx k0 HYES HNO HREF hc0 hlo hmm
    go_wp2_with fail
    refine HX.out.mono ?_
    rintro e w1 ⟨rfl, hb1⟩
    have B1 := Lib.hid hb1
    clear hb1
    go_wp2_with fail
    refine (bk_ints (x := .slice none 0 0) (l := []) (HK.out.below B1.out) (by have := HL.out; omega) (RowAt.nil _ _ _ _) (by simp) (fun g e k => by simp [Value.ownBlock] at e) (Nat.le_trans HL.out.2.1 B1.out.size)).mono ?_
    rintro e w3 ⟨rfl, hk, hm⟩
    have L3 := Lib.hid ((HLS.out.below B1.out).booked hm).sx
    have K3 := Lib.hid hk
    have B3 := Lib.hid ((B1.out.mono HL.out.2.1).trans (hm.below (B := lo) (fun k hk => hk.1) (Nat.le_trans HL.out.2.1 B1.out.size)))
    clear hk hm
    go_wp2_with fail
    exact HQ.out _ w3 _ [] false ⟨rfl, rfl, rfl, rfl, rfl, rfl, rfl, rfl, rfl, rfl⟩ L3.out (RowAt.nil _ _ _ _) rfl (fun h => by cases h) ⟨_, K3.out⟩ B3.out
theorem more2_open {Q : Exit → Act → World → Prop} {a : Act} {w : World} (hd : a.defers = []) (hs : a.tmps.size = 288) (h : Code.wp Tryz.prog more2L Q ⟨frame fun n => a.tmps.getD n undef, []⟩ w) : Code.wp Tryz.prog more2L Q a w := by
  rw [open_act a hd hs]
  exact h
/-- No more than 3000 are asked for; then Blocks. -/
theorem more_any (f : Nat → Value) (lo : Nat) (W : World) (kb nS nI : Nat) (a b X L D R : List S) (m n x al o p q r : Value) (t0 t1 t2 t3 t4 : Nat) (most : Int) (hLs : Ls lo W a b X L D R m n x al o p q r t0 t1 t2 t3 t4) (hS : Sets a b X L D R) (ha : a.length ≤ 40) (la : Lim a) (hK : Bk W kb lo nS nI fun g => g < t4) (hnI : nI < 250) (hlo : lo ≤ W.heap.size) (Q : Exit → Act → World → Prop)
    (h3 : f 3 = .int .i64 most) (h9 : f 9 = .pointer (some ⟨kb, 0, none⟩)) (h19 : f 19 = m) (h21 : f 21 = x)
    (hQ : ∀ a' W' z Z g mm, Keep5 (f 0) (f 1) (.int .i64 mm) (.pointer (some ⟨kb, 0, none⟩)) (f 18) x z (.bool g) a' → SRow W' lo x X → IRow W' lo z Z → Z = (if g = true then blocks X else []) → (g = true → count X ≤ 3000) → (∃ N, Bk W' kb lo nS (nI + 1) N) → Below lo W W' → Code.wp Tryz.prog restL Q a' W') :
    Code.wp Tryz.prog moreL Q ⟨frame f, []⟩ W := by
  have H := Lib.hid fun (g : Nat → Value) (mm : Int) (hmm : mm ≤ 3000) (e0 : g 0 = f 0) (e1 : g 1 = f 1) (e3 : g 3 = .int .i64 mm) (e9 : g 9 = f 9) (e18 : g 18 = f 18) (e19 : g 19 = f 19) (e21 : g 21 = f 21) =>
    more2_any g lo W kb nS nI a b X L D R m n x al o p q r t0 t1 t2 t3 t4 mm hLs hS ha la hK hnI hlo hmm Q e3 (e9.trans h9) (e19.trans h19) (e21.trans h21) (fun a' W' z Z g hk => by
      rw [e0, e1, e18] at hk
      exact hQ a' W' z Z g mm hk)
  clear hQ hLs hS ha la hK hnI hlo h9 h19 h21
  by_cases k : most > 3000
  · have d1 : decide (most > 3000) = true := decide_eq_true k
    have d2 : decide (3000 < most) = true := decide_eq_true k
    unfold frame
    rw [h3, more1_split]
    conv => arg 2; arg 1; whnf
    go_wp2_with fail
    exact more2_open rfl rfl (H.out _ 3000 (by omega) rfl rfl rfl rfl rfl rfl rfl)
  · have d1 : decide (most > 3000) = false := decide_eq_false k
    have d2 : decide (3000 < most) = false := decide_eq_false k
    have hmm : most ≤ 3000 := by omega
    unfold frame
    rw [h3, more1_split]
    conv => arg 2; arg 1; whnf
    go_wp2_with fail
    exact more2_open rfl rfl (H.out _ most hmm rfl rfl rfl rfl rfl rfl rfl)
end Go.Proofs.YtehnobcjoaclcaaGreat
