/- The statement NetPlays of package net: every net, and every call, in every order, answers as the document's own net does, and what is handed in stays; it holds of every bool and every list of operations. -/
import Derived.Test.YtkfbljbhdjnggaaNpF
import Derived.Deep.DeepCutAuto
import Derived.Deep.CutBlock
import Derived.OpenShut
import Derived.ChangeOld
namespace Go.Proofs.Ytkfbljbhdjnggaa
open Go Go.RowKit Go.ChangeShapes Go.WideShapes Go.ChangeAt NetP
set_option maxRecDepth 1000000
set_option maxHeartbeats 8000000
set_option linter.unusedSimpArgs false

theorem ref_new14 (w : World) : Has (RN w.heap.size [] []) w (w.alloc (.cells #[.slice none 0 0, .slice none 0 0] 30)) :=
  ⟨⟨_, _, Sits.fresh w _ _, Nat.le_refl _, RowAt.nil _ _ _ _, fun b hb => by simp [Value.ownBlock] at hb, RowAt.nil _ _ _ _, fun b hb => by simp [Value.ownBlock] at hb⟩, (Below.refl _ _).alloc (Nat.le_refl _) _⟩
theorem zero_new14 (w : World) : Has (NX w.heap.size 0 [] []) w (w.alloc (.cells #[.pointer none, .map none] 34)) :=
  ⟨.inr ⟨⟨Sits.fresh w _ _, Nat.le_refl _⟩, rfl, rfl⟩, (Below.refl _ _).alloc (Nat.le_refl _) _⟩
theorem Has.swap {A B : (Nat → Prop) → World → Prop} {w0 w : World} (h : Has (Both A B) w0 w) : Has (Both B A) w0 w := h.imp fun _ h => h.swap
theorem Has.up {A : (Nat → Prop) → World → Prop} {w0 w1 w : World} (hA : Hold A) (hb : Below w0.heap.size w0 w1) (h : Has A w1 w) : Has A w0 w := ⟨hA.mono h.here fun _ hk => Nat.le_trans hb.size hk, hb.trans (h.below.mono hb.size)⟩
/-- What the document's net tells of itself wherever nothing of it turns. -/
structure Reads2 (w5 : World) (r : Nat) (L : List Pk) (U : Option Addr) (ucap : Nat) : Prop where
  cell : ∀ W, Below w5.heap.size w5 W → W.cell? ⟨r, 0, none⟩ = some (.slice U L.length ucap) ∧ r < W.heap.size
  elem : ∀ (j : Nat) (hj : j < L.length), ∃ b o, U = some ⟨b, o, none⟩ ∧ ∀ W, Below w5.heap.size w5 W → b < W.heap.size ∧ W.cell? ⟨b, o + j * 3, none⟩ = some (.int .i64 L[j].f) ∧ W.cell? ⟨b, o + j * 3 + 1, none⟩ = some (.int .i64 L[j].t) ∧ W.cell? ⟨b, o + j * 3 + 2, none⟩ = some (.string (str L[j].d))
theorem has_reads {w w5 : World} {g r c : Nat} {L : List Pk} {C : List (Int × Int)} (h : Has (BN g r c L C L C) w w5) : (L.length : Int) ≤ 900 ∧ ∃ U ucap, Reads2 w5 r L U ucap := by
  obtain ⟨S1, S2, hn, ⟨u, d, h1, h2, h3, -⟩, _⟩ := h.here
  have hl := hn.len
  have h3' := row_at h3
  obtain ⟨U, ucap, rfl, -⟩ := h3.form
  refine ⟨by omega, U, ucap, ⟨fun W hW => ⟨(h1.below' hW).cell 0, (h1.below' hW).lt⟩, fun j hjl => ?_⟩⟩
  obtain ⟨A', cap', e, _, _, k3⟩ := Pks.read h3'
  injection e with e1 _ e2
  subst e1 e2
  obtain ⟨b, o, e, k4, k5, k6, k7⟩ := k3 j hjl
  exact ⟨b, o, e, fun W hW => ⟨Nat.lt_of_lt_of_le k4 hW.size, (hW.cell (p := ⟨b, o + j * 3, none⟩) k4).trans k5, (hW.cell (p := ⟨b, o + j * 3 + 1, none⟩) k4).trans k6, (hW.cell (p := ⟨b, o + j * 3 + 2, none⟩) k4).trans k7⟩⟩
theorem netPlays_walk (zero : Bool) (v : Value) (l : List St14) (w : World) (hv : (∀ x ∈ l, St14W w x) ∧ SliceAt 4 enc14 w v l) :
    Calls Try.prog 3 #[.bool zero, v] w fun e w' => e = .returned (.bool true) ∧ Below w.heap.size w w' := by
  obtain ⟨hok, A, cap, rfl, h1, h2, h3⟩ := hv
  have hlen : (l.length : Int) ≤ 9223372036854775807 := by omega
  by_cases hg : 120 < l.length
  · have d1 : decide ((l.length : Int) > 120) = true := decide_eq_true (by omega)
    have d2 : decide (120 < (l.length : Int)) = true := decide_eq_true (by omega)
    clear h3 hok
    go_enter Try.func3, Try.ntmps3
    go_wp2_with fail
    refine (alive14_any w).mono ?_
    rintro e w4 ⟨rfl, hb4⟩
    go_wp2
    go_ret
    exact ⟨rfl, hb4⟩
  have d1 : decide ((l.length : Int) > 120) = false := decide_eq_false (by omega)
  have d2 : decide (120 < (l.length : Int)) = false := decide_eq_false (by omega)
  have H3 := Lib.hid h3
  have HOK : Hid (∀ x ∈ l, Good14 w x) := Lib.hid fun x hx => ⟨(hok x hx).a, (hok x hx).b, (hok x hx).l, fun W hW => (hok x hx).s.below hW⟩
  have HL : Hid (l.length ≤ 120) := Lib.hid (by omega)
  clear h3 hok hg
  cases zero with
  | false =>
    go_enter Try.func3, Try.ntmps3
    go_wp2_with fail
    refine (netNew_any w).mono ?_
    rintro e w1 ⟨g, rfl, hg⟩
    have hg := hg.imp (A' := NX g 0 [] []) fun _ h => .inl h
    have hr := ref_new14 w1
    have hN : Has (BN g w1.heap.size 0 [] [] [] []) w (w1.alloc (.cells #[.slice none 0 0, .slice none 0 0] 30)) := hg.with_ (holdNX _ _ _ _) hr
    obtain ⟨wb, hwb⟩ : ∃ wb, wb = w1.alloc (.cells #[.slice none 0 0, .slice none 0 0] 30) := ⟨_, rfl⟩
    obtain ⟨rb, hrb⟩ : ∃ rb, rb = w1.heap.size := ⟨_, rfl⟩
    rw [← hwb, ← hrb] at hN
    have HS := Lib.hid hN
    have HWB := Lib.hid (And.intro hwb hrb)
    clear hg hr hN hwb hrb
    go_wp2_with fail
    rw [← HWB.out.1, ← HWB.out.2]
    refine loop_act w wb g rb A cap l HL.out H3.out HOK.out HS.out _ _ ⟨rfl, rfl, rfl, rfl, rfl, rfl⟩ ?_ ?_
    · rintro a' w' c L C ⟨hd, hsz, g1, g5, g6, g7⟩ hN
      have HN := Lib.hid hN
      clear hN HS HWB
      rw [open_act a' hd hsz]
      generalize hf : (fun n => a'.tmps.getD n undef) = f
      have g5' : f 5 = .pointer (some ⟨g, 0, none⟩) := by rw [← hf]; exact g5
      have g6' : f 6 = .pointer (some ⟨rb, 0, none⟩) := by rw [← hf]; exact g6
      clear hf g1 g5 g6 g7 hd hsz
      unfold frame
      rw [g5', g6']
      clear g5' g6'
      simp only [Exit.inBlock, Exit.then, ↓reduceIte]
      go_wp2_with fail
      go_loopw [20] (fun iv wr => ∃ q : Nat, q ≤ L.length ∧ iv = .int .i64 (q : Int) ∧ Hid (Has (BN g rb c L C L C) w wr)) (fun iv _ => L.length - (intOf iv).toNat)
      case atStart => exact ⟨0, by omega, rfl, Lib.hid HN.out⟩
      case round =>
        obtain ⟨q, hq, rfl, hI⟩ := hrel
        have hrf : (L.length : Int) ≤ 900 ∧ ∃ U ucap, Reads2 wr rb L U ucap := has_reads hI.out
        obtain ⟨hL9, U, ucap, hrd⟩ := hrf
        have HRD := Lib.hid hrd
        obtain ⟨c0, crl⟩ := hrd.cell wr (Below.refl _ _)
        by_cases hlt : q < L.length
        · have hltI : (q : Int) < (L.length : Int) := by omega
          have hpk := ((tpeek (g := g) (c := c) (L := L) (C := C) (q : Int)).left (holdNX _ _ _ _) (holdRN _ _ _)).has hI.out
          rw [peekL_in L q hlt] at hpk
          obtain ⟨x, hx⟩ : ∃ x, x = L[q] := ⟨_, rfl⟩
          rw [← hx] at hpk
          have HX := Lib.hid hx
          have HPK := Lib.hid hpk
          have ew : IntKind.i64.wrap ((q : Int) + 1) = (q : Int) + 1 := IntWalk.i64_in _ (by omega)
          clear hI hrd hpk hx
          go_wp2_with fail
          refine HPK.out.mono ?_
          rintro e w5 ⟨rfl, h5⟩
          have hb6 : Below w5.heap.size w5 (w5.alloc (.cells #[.int .i64 x.f, .int .i64 x.t, .string (str x.d)] 45)) := (Below.refl _ w5).alloc (Nat.le_refl _) _
          obtain ⟨W6, hW6⟩ : ∃ W, W = w5.alloc (.cells #[.int .i64 x.f, .int .i64 x.t, .string (str x.d)] 45) := ⟨_, rfl⟩
          have hs6 : Sits W6 w5.heap.size 45 #[.int .i64 x.f, .int .i64 x.t, .string (str x.d)] := hW6 ▸ Sits.fresh w5 _ _
          rw [← hW6] at hb6
          have h6 := Has.down (holdBN _ _ _ _ _ _ _) h5 hb6
          obtain ⟨_, U2, ucap2, hrd2⟩ := has_reads h6
          obtain ⟨b, o, rfl, hel⟩ := hrd2.elem q hlt
          rw [← HX.out] at hel
          have HCE : Hid (∀ W, Below W6.heap.size W6 W → W.cell? ⟨rb, 0, none⟩ = some (.slice (some ⟨b, o, none⟩) L.length ucap2) ∧ rb < W.heap.size ∧ (b < W.heap.size ∧ W.cell? ⟨b, o + q * 3, none⟩ = some (.int .i64 x.f) ∧ W.cell? ⟨b, o + q * 3 + 1, none⟩ = some (.int .i64 x.t) ∧ W.cell? ⟨b, o + q * 3 + 2, none⟩ = some (.string (str x.d))) ∧ W.cell? ⟨w5.heap.size, 0, none⟩ = some (.int .i64 x.f) ∧ W.cell? ⟨w5.heap.size, 1, none⟩ = some (.int .i64 x.t) ∧ W.cell? ⟨w5.heap.size, 2, none⟩ = some (.string (str x.d)) ∧ w5.heap.size < W.heap.size) := Lib.hid fun W hW => ⟨(hrd2.cell W hW).1, (hrd2.cell W hW).2, hel W hW, (hs6.below' hW).cell 0, (hs6.below' hW).cell 1, (hs6.below' hW).cell 2, (hs6.below' hW).lt⟩
          have H6 := Lib.hid h6
          have HW6 := Lib.hid hW6
          clear h5 hb6 hs6 h6 hrd2 hel hW6 HPK HRD c0 crl HX
          go_wp2_with fail
          rw [← HW6.out]
          refine wp_region_ex (by kernel_rfl) (fun W => Below W6.heap.size W6 W) (fun W W' => Below W.heap.size W W')
            [[(22, none)], [(249, some 0)], [(250, some 1)], [(21, none), (251, some 2)], [(6, none), (251, some 2)], [(251, some 2), (253, some 4)], [(251, some 2), (254, some 5)], [(251, some 2), (255, some 6)], [(20, none), (251, some 2)], [(251, some 2), (256, some 7), (257, some 8)], [(251, some 2), (258, some 9)], [(251, some 2), (252, some 3), (259, some 10)], [(251, some 2), (260, some 11)], [(251, some 2), (261, some 12)]]
            [none, none, none, none, none, none, none, none, none, none, none, none, none, none, none, none, none, none, none, none, none, none, none, none, none, none, none, none, none, none, none, none, none, none, none, none, none, none, none, none, none, none, none, none, none, none, none, none, none, none, none, none, none, none, none, none, none, none, none, none, none, none, none, none, none, none, none, none, none, none, none, none, none, none, none, none, none, none, none, none, none, none, none, none, none, none, none, none, none, none, none, none, none, none, none, none, none, none, none, none, none, none, none, none, none, none, none, none, none, none, none, none, none, none, none, none, none, none, none, none, none, none, none, none, none, none, none, none, none, none, none, none, none, none, none, none, none, none, none, none, none, none, none, none, none, none, none, none, none, none, none, none, none, none, none, none, none, none, none, none, none, none, none, none, none, none, none, none, none, none, none, none, none, none, none, none, none, none, none, none, none, none, none, none, none, none, none, none, none, none, none, none, none, none, none, none, none, none, none, none, none, none, none, none, none, none, none, none, none, none, none, none, none, none, none, none, none, none, none, none, none, none, none, none, none, none, none, none, none, none, none, none, none, none, none, none, none, none, none, none, none, none, none, none, none, none, none, none, none, some 0, some 1, some 2, some 3, some 4, some 5, some 6, some 7, some 8, some 9, some 10, some 11, some 12, some 13, none] (by kernel_rfl) (by kernel_rfl) ((Below.refl _ _).drew) ?_
          iterate 11
            refine ex_pure (c := ?_) (fun _ _ => Below.refl _ _) ?_ ?_
            rotate_left
            · intro a' W hR hF
              simp only [FactsOf, List.nil_append, List.cons_append, List.getD_cons_zero, List.getD_cons_succ, exists_eq_left, and_true, List.getElem?_toArray, List.getElem?_cons_zero, List.getElem?_cons_succ] at hF
              obtain ⟨p1, p2, ⟨p3, p4, p5, p6⟩, p7, p8, p9, p10⟩ := HCE.out W hR
              refine ⟨?_, ?_⟩
              · simp [Region.wanted, yielded, hF]
              · go_simp
                with_reducible rfl
          refine ex_callx (.bool true) (fun a' W hR hF => ?_) ?_
          · skip
            simp only [FactsOf, List.nil_append, List.cons_append, List.getD_cons_zero, List.getD_cons_succ, exists_eq_left, and_true, List.getElem?_toArray, List.getElem?_cons_zero, List.getElem?_cons_succ] at hF
            refine ⟨by simp [Region.wanted, yielded, hF], 17, #[.agg #[.int .i64 x.f, .int .i64 x.t, .string (str x.d)], .agg #[.int .i64 x.f, .int .i64 x.t, .string (str x.d)]], by go_simp, (same14_yes x W).mono fun e w' ⟨he, hb⟩ => ⟨he, hR.trans (hb.mono hR.size), hb⟩⟩
          iterate 2
            refine ex_pure (c := ?_) (fun _ _ => Below.refl _ _) ?_ ?_
            rotate_left
            · intro a' W hR hF
              simp only [FactsOf, List.nil_append, List.cons_append, List.getD_cons_zero, List.getD_cons_succ, exists_eq_left, and_true, List.getElem?_toArray, List.getElem?_cons_zero, List.getElem?_cons_succ] at hF
              refine ⟨?_, ?_⟩
              · simp [Region.wanted, yielded, hF]
              · go_simp
                with_reducible rfl
          show ∀ W, _ → _
          intro w7 hR2
          simp only [FinOf, List.nil_append, List.cons_append, List.getD_cons_zero, List.getD_cons_succ, forall_eq, forall_exists_index, and_imp, Nat.reduceAdd, Array.getD_eq_getD_getElem?, List.getElem?_toArray, List.getElem?_cons_zero, List.getElem?_cons_succ, Option.getD_some]
          have H7 := Lib.hid (Has.down (holdBN _ _ _ _ _ _ _) H6.out hR2)
          clear hR2 HCE H6 HW6
          intros
          go_wp2_with fail
          go_roundw
          case rel => exact ⟨q + 1, by omega, by go_num, Lib.hid H7.out⟩
          case measure => simp [intOf]; omega
        · obtain rfl : q = L.length := by omega
          have HI := Lib.hid hI.out.below
          clear hI hrd HRD
          go_wp2_with fail
          refine (alive14_any _).mono ?_
          rintro e w5 ⟨rfl, hb5⟩
          have HF := Lib.hid (HI.out.trans (hb5.mono HI.out.size))
          clear hb5 HI
          go_wp2
          go_ret
          exact ⟨rfl, HF.out⟩
    · rintro a' w' hd hsz h4 hb
      have HB := Lib.hid hb
      clear hb HS HWB
      rw [open_act a' hd hsz]
      generalize hf : (fun n => a'.tmps.getD n undef) = f
      have g4' : f 4 = .bool true := by rw [← hf]; exact h4
      clear hf hd hsz h4
      unfold frame
      rw [g4']
      simp only [Exit.inBlock, Exit.then]
      go_ret
      exact ⟨rfl, HB.out⟩
  | true =>
    go_enter Try.func3, Try.ntmps3
    go_wp2_with fail
    refine (netNew_any w).mono ?_
    rintro e w1 ⟨g, rfl, hg⟩
    have hg := hg.imp (A' := NX g 0 [] []) fun _ h => .inl h
    have hr := ref_new14 w1
    have hz := zero_new14 (w1.alloc (.cells #[.slice none 0 0, .slice none 0 0] 30))
    have hN := ((hr.up (holdRN _ _ _) hg.below).with_ (holdRN _ _ _) hz).swap
    have hsz : (w1.alloc (.cells #[.slice none 0 0, .slice none 0 0] 30)).heap.size = w1.heap.size + 1 := World.size_alloc ..
    rw [hsz] at hN
    obtain ⟨wb, hwb⟩ : ∃ wb, wb = (w1.alloc (.cells #[.slice none 0 0, .slice none 0 0] 30)).alloc (.cells #[.pointer none, .map none] 34) := ⟨_, rfl⟩
    obtain ⟨rb, hrb⟩ : ∃ rb, rb = w1.heap.size := ⟨_, rfl⟩
    rw [← hwb, ← hrb] at hN
    have HS : Hid (Has (BN (rb + 1) rb 0 [] [] [] []) w wb) := Lib.hid hN
    have HWB := Lib.hid (And.intro hwb hrb)
    clear hg hr hN hwb hrb hz hsz
    go_wp2_with fail
    rw [← HWB.out.1, ← HWB.out.2]
    refine loop_act w wb (rb + 1) rb A cap l HL.out H3.out HOK.out HS.out _ _ ⟨rfl, rfl, rfl, rfl, rfl, rfl⟩ ?_ ?_
    · rintro a' w' c L C ⟨hd, hsz, g1, g5, g6, g7⟩ hN
      have HN := Lib.hid hN
      clear hN HS HWB
      rw [open_act a' hd hsz]
      generalize hf : (fun n => a'.tmps.getD n undef) = f
      have g5' : f 5 = .pointer (some ⟨rb + 1, 0, none⟩) := by rw [← hf]; exact g5
      have g6' : f 6 = .pointer (some ⟨rb, 0, none⟩) := by rw [← hf]; exact g6
      clear hf g1 g5 g6 g7 hd hsz
      unfold frame
      rw [g5', g6']
      clear g5' g6'
      simp only [Exit.inBlock, Exit.then, ↓reduceIte]
      go_wp2_with fail
      go_loopw [20] (fun iv wr => ∃ q : Nat, q ≤ L.length ∧ iv = .int .i64 (q : Int) ∧ Hid (Has (BN (rb + 1) rb c L C L C) w wr)) (fun iv _ => L.length - (intOf iv).toNat)
      case atStart => exact ⟨0, by omega, rfl, Lib.hid HN.out⟩
      case round =>
        obtain ⟨q, hq, rfl, hI⟩ := hrel
        have hrf : (L.length : Int) ≤ 900 ∧ ∃ U ucap, Reads2 wr rb L U ucap := has_reads hI.out
        obtain ⟨hL9, U, ucap, hrd⟩ := hrf
        have HRD := Lib.hid hrd
        obtain ⟨c0, crl⟩ := hrd.cell wr (Below.refl _ _)
        by_cases hlt : q < L.length
        · have hltI : (q : Int) < (L.length : Int) := by omega
          have hpk := ((tpeek (g := (rb + 1)) (c := c) (L := L) (C := C) (q : Int)).left (holdNX _ _ _ _) (holdRN _ _ _)).has hI.out
          rw [peekL_in L q hlt] at hpk
          obtain ⟨x, hx⟩ : ∃ x, x = L[q] := ⟨_, rfl⟩
          rw [← hx] at hpk
          have HX := Lib.hid hx
          have HPK := Lib.hid hpk
          have ew : IntKind.i64.wrap ((q : Int) + 1) = (q : Int) + 1 := IntWalk.i64_in _ (by omega)
          clear hI hrd hpk hx
          go_wp2_with fail
          refine HPK.out.mono ?_
          rintro e w5 ⟨rfl, h5⟩
          have hb6 : Below w5.heap.size w5 (w5.alloc (.cells #[.int .i64 x.f, .int .i64 x.t, .string (str x.d)] 45)) := (Below.refl _ w5).alloc (Nat.le_refl _) _
          obtain ⟨W6, hW6⟩ : ∃ W, W = w5.alloc (.cells #[.int .i64 x.f, .int .i64 x.t, .string (str x.d)] 45) := ⟨_, rfl⟩
          have hs6 : Sits W6 w5.heap.size 45 #[.int .i64 x.f, .int .i64 x.t, .string (str x.d)] := hW6 ▸ Sits.fresh w5 _ _
          rw [← hW6] at hb6
          have h6 := Has.down (holdBN _ _ _ _ _ _ _) h5 hb6
          obtain ⟨_, U2, ucap2, hrd2⟩ := has_reads h6
          obtain ⟨b, o, rfl, hel⟩ := hrd2.elem q hlt
          rw [← HX.out] at hel
          have HCE : Hid (∀ W, Below W6.heap.size W6 W → W.cell? ⟨rb, 0, none⟩ = some (.slice (some ⟨b, o, none⟩) L.length ucap2) ∧ rb < W.heap.size ∧ (b < W.heap.size ∧ W.cell? ⟨b, o + q * 3, none⟩ = some (.int .i64 x.f) ∧ W.cell? ⟨b, o + q * 3 + 1, none⟩ = some (.int .i64 x.t) ∧ W.cell? ⟨b, o + q * 3 + 2, none⟩ = some (.string (str x.d))) ∧ W.cell? ⟨w5.heap.size, 0, none⟩ = some (.int .i64 x.f) ∧ W.cell? ⟨w5.heap.size, 1, none⟩ = some (.int .i64 x.t) ∧ W.cell? ⟨w5.heap.size, 2, none⟩ = some (.string (str x.d)) ∧ w5.heap.size < W.heap.size) := Lib.hid fun W hW => ⟨(hrd2.cell W hW).1, (hrd2.cell W hW).2, hel W hW, (hs6.below' hW).cell 0, (hs6.below' hW).cell 1, (hs6.below' hW).cell 2, (hs6.below' hW).lt⟩
          have H6 := Lib.hid h6
          have HW6 := Lib.hid hW6
          clear h5 hb6 hs6 h6 hrd2 hel hW6 HPK HRD c0 crl HX
          go_wp2_with fail
          rw [← HW6.out]
          refine wp_region_ex (by kernel_rfl) (fun W => Below W6.heap.size W6 W) (fun W W' => Below W.heap.size W W')
            [[(22, none)], [(249, some 0)], [(250, some 1)], [(21, none), (251, some 2)], [(6, none), (251, some 2)], [(251, some 2), (253, some 4)], [(251, some 2), (254, some 5)], [(251, some 2), (255, some 6)], [(20, none), (251, some 2)], [(251, some 2), (256, some 7), (257, some 8)], [(251, some 2), (258, some 9)], [(251, some 2), (252, some 3), (259, some 10)], [(251, some 2), (260, some 11)], [(251, some 2), (261, some 12)]]
            [none, none, none, none, none, none, none, none, none, none, none, none, none, none, none, none, none, none, none, none, none, none, none, none, none, none, none, none, none, none, none, none, none, none, none, none, none, none, none, none, none, none, none, none, none, none, none, none, none, none, none, none, none, none, none, none, none, none, none, none, none, none, none, none, none, none, none, none, none, none, none, none, none, none, none, none, none, none, none, none, none, none, none, none, none, none, none, none, none, none, none, none, none, none, none, none, none, none, none, none, none, none, none, none, none, none, none, none, none, none, none, none, none, none, none, none, none, none, none, none, none, none, none, none, none, none, none, none, none, none, none, none, none, none, none, none, none, none, none, none, none, none, none, none, none, none, none, none, none, none, none, none, none, none, none, none, none, none, none, none, none, none, none, none, none, none, none, none, none, none, none, none, none, none, none, none, none, none, none, none, none, none, none, none, none, none, none, none, none, none, none, none, none, none, none, none, none, none, none, none, none, none, none, none, none, none, none, none, none, none, none, none, none, none, none, none, none, none, none, none, none, none, none, none, none, none, none, none, none, none, none, none, none, none, none, none, none, none, none, none, none, none, none, none, none, none, none, none, none, some 0, some 1, some 2, some 3, some 4, some 5, some 6, some 7, some 8, some 9, some 10, some 11, some 12, some 13, none] (by kernel_rfl) (by kernel_rfl) ((Below.refl _ _).drew) ?_
          iterate 11
            refine ex_pure (c := ?_) (fun _ _ => Below.refl _ _) ?_ ?_
            rotate_left
            · intro a' W hR hF
              simp only [FactsOf, List.nil_append, List.cons_append, List.getD_cons_zero, List.getD_cons_succ, exists_eq_left, and_true, List.getElem?_toArray, List.getElem?_cons_zero, List.getElem?_cons_succ] at hF
              obtain ⟨p1, p2, ⟨p3, p4, p5, p6⟩, p7, p8, p9, p10⟩ := HCE.out W hR
              refine ⟨?_, ?_⟩
              · simp [Region.wanted, yielded, hF]
              · go_simp
                with_reducible rfl
          refine ex_callx (.bool true) (fun a' W hR hF => ?_) ?_
          · skip
            simp only [FactsOf, List.nil_append, List.cons_append, List.getD_cons_zero, List.getD_cons_succ, exists_eq_left, and_true, List.getElem?_toArray, List.getElem?_cons_zero, List.getElem?_cons_succ] at hF
            refine ⟨by simp [Region.wanted, yielded, hF], 17, #[.agg #[.int .i64 x.f, .int .i64 x.t, .string (str x.d)], .agg #[.int .i64 x.f, .int .i64 x.t, .string (str x.d)]], by go_simp, (same14_yes x W).mono fun e w' ⟨he, hb⟩ => ⟨he, hR.trans (hb.mono hR.size), hb⟩⟩
          iterate 2
            refine ex_pure (c := ?_) (fun _ _ => Below.refl _ _) ?_ ?_
            rotate_left
            · intro a' W hR hF
              simp only [FactsOf, List.nil_append, List.cons_append, List.getD_cons_zero, List.getD_cons_succ, exists_eq_left, and_true, List.getElem?_toArray, List.getElem?_cons_zero, List.getElem?_cons_succ] at hF
              refine ⟨?_, ?_⟩
              · simp [Region.wanted, yielded, hF]
              · go_simp
                with_reducible rfl
          show ∀ W, _ → _
          intro w7 hR2
          simp only [FinOf, List.nil_append, List.cons_append, List.getD_cons_zero, List.getD_cons_succ, forall_eq, forall_exists_index, and_imp, Nat.reduceAdd, Array.getD_eq_getD_getElem?, List.getElem?_toArray, List.getElem?_cons_zero, List.getElem?_cons_succ, Option.getD_some]
          have H7 := Lib.hid (Has.down (holdBN _ _ _ _ _ _ _) H6.out hR2)
          clear hR2 HCE H6 HW6
          intros
          go_wp2_with fail
          go_roundw
          case rel => exact ⟨q + 1, by omega, by go_num, Lib.hid H7.out⟩
          case measure => simp [intOf]; omega
        · obtain rfl : q = L.length := by omega
          have HI := Lib.hid hI.out.below
          clear hI hrd HRD
          go_wp2_with fail
          refine (alive14_any _).mono ?_
          rintro e w5 ⟨rfl, hb5⟩
          have HF := Lib.hid (HI.out.trans (hb5.mono HI.out.size))
          clear hb5 HI
          go_wp2
          go_ret
          exact ⟨rfl, HF.out⟩
    · rintro a' w' hd hsz h4 hb
      have HB := Lib.hid hb
      clear hb HS HWB
      rw [open_act a' hd hsz]
      generalize hf : (fun n => a'.tmps.getD n undef) = f
      have g4' : f 4 = .bool true := by rw [← hf]; exact h4
      clear hf hd hsz h4
      unfold frame
      rw [g4']
      simp only [Exit.inBlock, Exit.then]
      go_ret
      exact ⟨rfl, HB.out⟩

set_option maxRecDepth 100000 in
theorem netPlays_lifted (os : Os) (started : os.Started) (H : Type) (enc : TypeId × Value → H) :
    ReturnsInHanded {} Try.checked os 3 .any (Rows.netPlaysSpec.pre6 enc Try.prog Try.f3 Rows.netPlaysRow.domain false) (Rows.netPlaysSpec.post enc Try.prog Try.f3 false true false false) := by
  refine returnsInHanded_of_change (C := Try.checked) own started (by kernel_rfl) Try.func3
    (ChangeSpec.witness6 (enc := enc) (C := Try.checked) false ⟨#[], #[.bool false, .slice none 0 0], []⟩ 8 (by kernel_rfl) (by kernel_rfl) (by kernel_rfl) (by kernel_rfl)) ?_
  intro W base args ds gs before hval0 hW _ _
  have hval : ∀ (j : Nat) t v, Try.f3.params[j]? = some t → args[j]? = some v → Value.okWide Try.prog W .any base t v := hval0
  have hW' := hW
  obtain ⟨p, q, hA0, hV, rfl, hfz, hnd⟩ := hW
  have hA : DataW.TrodAll enc Try.prog W 0 (fun _ => true) true Try.f3.params.toList args.toList ds p := hA0
  rw [Try.params3] at hA hval
  obtain ⟨v0, vs0, d0, ds0, p0, q0, hargs, rfl, rfl, h0, r0⟩ := trodAll_cons hA
  obtain ⟨v1, vs1, d1, ds1, p1, q1, rfl, rfl, rfl, h1, r1⟩ := trodAll_cons r0
  obtain ⟨rfl, rfl, rfl⟩ := trodAll_nil r1
  obtain rfl : args = #[v0, v1] := by cases args; simp_all
  obtain ⟨rfl, rfl⟩ := trodVars_none hV
  have k0 := h0
  have lt0 : ∀ x ∈ p0, x.block < W.heap.size := by obtain ⟨m, hm⟩ := k0; exact DataW.trod_lt m _ _ _ hm
  have k1 := h1
  have lt1 : ∀ x ∈ p1, x.block < W.heap.size := by obtain ⟨m, hm⟩ := k1; exact DataW.trod_lt m _ _ _ hm
  obtain ⟨a0, rfl, rfl, rfl⟩ := open_bool Try.underlying4 (hval 0 4 v0 rfl rfl) h0
  obtain ⟨a1, w1⟩ := steps14_open (hval 1 22 v1 rfl rfl) k1
  clear hA0 hval0
  refine (netPlays_walk a0 v1 a1 W w1).mono fun e W' ⟨he, bel⟩ => ?_
  subst he
  exact ⟨_, rfl, _, _, _, [], _, [], hW', trodAll_mk1 (shut_bool Try.underlying4 _), (trodAll_cons_mk (Below.trod laidOut (by kernel_rfl) (of_decide_eq_true (by kernel_rfl)) k0 bel lt0) (trodAll_cons_mk (Below.trod laidOut (by kernel_rfl) (of_decide_eq_true (by kernel_rfl)) k1 bel lt1) trodAll_mk0)), rfl, bel.frame _, fun h => by cases h⟩

theorem netPlays_said : Rows.NetPlaysSaid :=
  OpenClaim.holds_of_wide 3 Try.f3 rfl rfl rfl rfl rfl rfl rfl ⟨rfl, rfl, rfl, rfl, rfl⟩ rfl rfl rfl rfl rfl (by kernel_rfl) Try.func3 (by unfold joinedFacts; simp only [Bool.and_eq_true]; and_intros <;> as_aux_lemma => kernel_rfl)
    (of_decide_eq_true (by kernel_rfl)) (by unfold Func.isWrapper; first | (rw [if_pos (by decide +kernel)]; kernel_rfl) | (rw [if_neg (by decide +kernel)]; exact ⟨rfl, rfl⟩))
    (fun os started H enc _ => netPlays_lifted os started H enc)
#print axioms netPlays_said
end Go.Proofs.Ytkfbljbhdjnggaa
