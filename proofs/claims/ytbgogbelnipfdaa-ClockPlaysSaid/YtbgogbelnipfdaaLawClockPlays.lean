/- The statement ClockPlays of package tick: every clock, and every steps; it holds of every list of ints. -/
import Derived.Test.YtbgogbelnipfdaaTckD
import Derived.Test.YtbgogbelnipfdaaTckF
import Derived.Test.YtbgogbelnipfdaaChm
namespace Go.Proofs.Ytbgogbelnipfdaa
open Go Go.RowKit Go.ChangeShapes Go.WideShapes Go.ChangeAt TckP
set_option maxRecDepth 100000
set_option maxHeartbeats 4000000
set_option linter.unusedSimpArgs false

/-- What stands behind so many of two calls. -/
def st3 (A B C : (Nat → Prop) → World → Prop) : Nat → (Nat → Prop) → World → Prop
  | 0 => A
  | 1 => B
  | _ => C
/-- Beside them, those of bs come up behind b. -/
def ClsB (ks : List Nat) (R : Nat → World → Prop) (bs : List Nat) (b : Nat) (d : Nat → Option Value) (W : World) : Prop := ClsN ks R d W ∧ ∀ k ∈ bs, (d k).isSome = true → (d b).isSome = true
section
variable {ks bs : List Nat} {R : Nat → World → Prop} {b : Nat} {d : Nat → Option Value} {W W' : World}
theorem setv_some {k j : Nat} {v : Value} (h : (d j).isSome = true) : (setv d k v j).isSome = true := by
  by_cases e : k = j
  · subst e; rw [setv_same]; rfl
  · rw [setv_other d v e]; exact h
theorem ClsB.pure {k : Nat} (hk : k ∉ ks) (hb : k ∉ bs) {v : Value} (h : ClsB ks R bs b d W) : ClsB ks R bs b (setv d k v) W :=
  ⟨h.1.pure hk, fun j hj hs => setv_some (h.2 j hj (by rw [setv_other d v (show k ≠ j from fun e => hb (e.symm ▸ hj))] at hs; exact hs))⟩
theorem ClsB.mark {k : Nat} (hk : k ∉ ks) {v : Value} (h : ClsB ks R bs b d W) (hs : (d b).isSome = true) : ClsB ks R bs b (setv d k v) W :=
  ⟨h.1.pure hk, fun _ _ _ => setv_some hs⟩
theorem ClsB.step {t k : Nat} (h : ClsB ks R bs b d W) (hn : ks.Nodup) (hk : ks[t]? = some k) (hb : k ∉ bs) (hd : d k = none) (hp : ∀ j, ks[t - 1]? = some j → 0 < t → (d j).isSome = true) {v : Value} (hr : R (t + 1) W') : ClsB ks R bs b (setv d k v) W' :=
  ⟨h.1.step hn hk hd hp hr, fun j hj hs => setv_some (h.2 j hj (by rw [setv_other d v (show k ≠ j from fun e => hb (e.symm ▸ hj))] at hs; exact hs))⟩
end
/-- A round: both clocks step. -/
theorem clock_round (p g : Nat) (l : List Int) (i : Nat) (hi : i < l.length) (h9 : l.length ≤ 300) :
    Turns (Both (CK p (runC (l.take i))) (RK g (cl (l.take i)) (!(runC (l.take i)).b))) (Both (CK p (runC (l.take (i + 1)))) (RK g (cl (l.take i)) (!(runC (l.take i)).b))) 12 #[.pointer (some ⟨p, 0, none⟩), .int .i64 l[i]] (.returned (.int .i64 (runC (l.take (i + 1))).now)) ∧
    Turns (Both (CK p (runC (l.take (i + 1)))) (RK g (cl (l.take i)) (!(runC (l.take i)).b))) (Both (CK p (runC (l.take (i + 1)))) (RK g (cl (l.take (i + 1))) (!(runC (l.take (i + 1))).b))) 13 #[.pointer (some ⟨g, 0, none⟩), .int .i64 l[i]] (.returned (.int .i64 (runC (l.take (i + 1))).now)) := by
  have e1 : l.take (i + 1) = l.take i ++ [l[i]] := List.take_succ_eq_append_getElem hi
  have e2 : cl (l.take (i + 1)) = cl (l.take i) ++ [clampF l[i]] := by rw [e1, cl_snoc]
  have e3 : runC (l.take (i + 1)) = stepF (runC (l.take i)) l[i] := by rw [e1, run_snoc]
  have e4 : (!(runC (l.take (i + 1))).b) = ((!(runC (l.take i)).b) && inB (last8 (cl (l.take i) ++ [clampF l[i]]))) := by
    rw [e1, run_b, Bool.not_or, Bool.not_not]
  refine ⟨?_, ?_⟩
  · have h := (tstep_turns (p := p) (c := runC (l.take i)) l[i] (by rw [run_real, List.length_take]; omega)).left (holdCK _ _) (holdRK g (cl (l.take i)) (!(runC (l.take i)).b))
    rw [e3]
    exact h
  · have h := (refstep_turns (g := g) (H := cl (l.take i)) (kp := !(runC (l.take i)).b) l[i] (cl_el _) (by rw [cl_len, List.length_take]; omega)).right (holdCK p (runC (l.take (i + 1)))) (holdRK _ _ _)
    rw [← e2] at h
    rw [e4, run_now, ← e2]
    exact h
theorem clockPlays_walk (zero : Bool) (v : Value) (l : List Int) (w : World) (hv : (∀ x ∈ l, i64ok x) ∧ Ints w v l) :
    Calls Try.prog 3 #[.bool zero, v] w fun e w' => e = .returned (.bool true) ∧ Below w.heap.size w w' := by
  obtain ⟨A, cap, rfl, h1, h2, h3⟩ := hv.2.one_
  clear hv
  have hlen : (l.length : Int) ≤ 9223372036854775807 := by omega
  by_cases hl : l.length ≤ 300
  rotate_left
  · have d1 : decide (300 < (l.length : Int)) = true := decide_eq_true (by omega)
    have HA := Lib.hid (alive16_any w)
    clear h3
    go_enter Try.func3, Try.ntmps3
    go_wp2_with fail
    refine HA.out.mono ?_
    rintro e w1 ⟨rfl, hb⟩
    go_wp2
    go_ret
    exact ⟨rfl, hb⟩
  have d1 : decide (300 < (l.length : Int)) = false := decide_eq_false (by omega)
  have H3 := Lib.hid h3
  have HL := Lib.hid hl
  have HN := Lib.hid (tickNew_any w)
  clear h3 hl
  go_enter Try.func3, Try.ntmps3
  go_wp2_with fail
  refine HN.out.mono ?_
  rintro e w1 ⟨p, rfl, h1⟩
  have HRK := Lib.hid (rk_new w1)
  have HX := Lib.hid (h1.with_ (holdCK _ _) HRK.out)
  have HCZ := Lib.hid (fun c t => h1.below.trans (((Below.refl _ w1).alloc (Nat.le_refl _) (.cells c t)).mono h1.below.size))
  clear h1 HN
  cases zero
  · go_wp2_with fail
    have HH : Hid (Has (Both (CK p (runC (l.take 0))) (RK w1.heap.size (cl (l.take 0)) (!(runC (l.take 0)).b))) w (w1.alloc (.cells #[.int .i64 0, .slice none 0 0, .bool true] 28))) := Lib.hid HX.out
    obtain ⟨g, hg⟩ : ∃ g, g = w1.heap.size := ⟨_, rfl⟩
    rw [← hg] at HH ⊢
    clear HX HRK hg HCZ
    have HK0 := tkept_any (HH.out.fst (holdCK _ _)).here
    rw [show (!(runC (l.take 0)).b) = true from rfl] at HK0
    refine HK0.mono ?_
    rintro e w' ⟨rfl, rfl⟩
    clear HK0
    go_wp2_with fail
    go_loopw [7] (fun iv wr => ∃ i : Nat, i ≤ l.length ∧ iv = .int .i64 (i : Int) ∧ Hid (Has (Both (CK p (runC (l.take i))) (RK g (cl (l.take i)) (!(runC (l.take i)).b))) w wr)) (fun i _ => l.length - (intOf i).toNat)
    case atStart => exact ⟨0, by omega, rfl, HH⟩
    case round =>
      obtain ⟨i, hi, rfl, hI⟩ := hrel
      by_cases hlt : i < l.length
      · obtain ⟨b, o, rfl, hb, hc⟩ := H3.out i hlt
        have hltI : (i : Int) < (l.length : Int) := by omega
        obtain ⟨t1, t2⟩ := clock_round p g l i hlt HL.out
        have hrl : ((runC (l.take (i + 1))).real : Int) = (i : Int) + 1 := by rw [run_real, List.length_take]; omega
        obtain ⟨B0, hB0⟩ : ∃ B, B = Both (CK p (runC (l.take i))) (RK g (cl (l.take i)) (!(runC (l.take i)).b)) := ⟨_, rfl⟩
        obtain ⟨B1, hB1⟩ : ∃ B, B = Both (CK p (runC (l.take (i + 1)))) (RK g (cl (l.take i)) (!(runC (l.take i)).b)) := ⟨_, rfl⟩
        have HO0 : Hid (Hold B0) := Lib.hid (hB0 ▸ (holdCK _ _).both (holdRK _ _ _))
        have HG0 : Hid (∀ W, Has B0 w W → g < W.heap.size) := Lib.hid fun W h => by
          rw [hB0] at h
          obtain ⟨_, _, h9⟩ := (h.snd (holdRK _ _ _)).here
          exact h9.sits.lt
        have HG1 : Hid (∀ W, Has B1 w W → g < W.heap.size) := Lib.hid fun W h => by
          rw [hB1] at h
          obtain ⟨_, _, h9⟩ := (h.snd (holdRK _ _ _)).here
          exact h9.sits.lt
        have hnow : (cl (l.take (i + 1))).sum = (runC (l.take (i + 1))).now := (run_now _).symm
        have hq : Hid (runC (l.take (i + 1)) = runC (l.take (i + 1))) := Lib.hid rfl
        obtain ⟨c', hc'⟩ : ∃ c', c' = runC (l.take (i + 1)) := ⟨_, rfl⟩
        obtain ⟨H', hH'⟩ : ∃ H', H' = cl (l.take (i + 1)) := ⟨_, rfl⟩
        obtain ⟨x, hx⟩ : ∃ x, x = l[i] := ⟨_, rfl⟩
        have hs := hI.out
        rw [← hB0] at hs
        rw [← hB0, ← hB1, ← hc', ← hx] at t1
        rw [← hB1, ← hc', ← hH', ← hx] at t2
        rw [← hc'] at hrl hnow
        rw [← hH'] at hnow
        rw [← hx] at hc
        have HREL : Hid (Both (CK p c') (RK g H' (!c'.b)) = Both (CK p (runC (l.take (i + 1)))) (RK g (cl (l.take (i + 1))) (!(runC (l.take (i + 1))).b))) := Lib.hid (by rw [hc', hH'])
        have HT1 := Lib.hid (fun W (h : Has B0 w W) => t1.has h)
        have HT2 := Lib.hid (fun W (h : Has B1 w W) => t2.has h)
        have HKP := Lib.hid (fun W (h : Has (Both (CK p c') (RK g H' (!c'.b))) w W) => tkept_any (h.fst (holdCK _ _)).here)
        have HRE := Lib.hid (fun W (h : Has (Both (CK p c') (RK g H' (!c'.b))) w W) => treal_any (h.fst (holdCK _ _)).here)
        have HNO := Lib.hid (fun W (h : Has (Both (CK p c') (RK g H' (!c'.b))) w W) => tnow_any (h.fst (holdCK _ _)).here)
        rw [hrl] at HRE
        have HRC : Hid (∀ W, Has (Both (CK p c') (RK g H' (!c'.b))) w W → W.cell? ⟨g, 0, none⟩ = some (.int .i64 c'.now) ∧ W.cell? ⟨g, 2, none⟩ = some (.bool (!c'.b)) ∧ g < W.heap.size) := Lib.hid fun W h => by
          obtain ⟨_, _, h9⟩ := (h.snd (holdRK _ _ _)).here
          have := h9.sits.cell 0
          rw [hnow] at this
          exact ⟨this, h9.sits.cell 2, h9.sits.lt⟩
        obtain ⟨B2, hB2⟩ : ∃ B, B = Both (CK p c') (RK g H' (!c'.b)) := ⟨_, rfl⟩
        rw [← hB2] at HREL HT2 HKP HRE HNO HRC
        obtain ⟨nv, hnv⟩ : ∃ n, n = c'.now := ⟨_, rfl⟩
        obtain ⟨kv, hkv⟩ : ∃ n, n = !c'.b := ⟨_, rfl⟩
        rw [← hnv] at HT1 HT2 HNO HRC
        rw [← hkv] at HKP HRC
        have HS := Lib.hid hs
        have HBW : Hid (∀ m W, Has (st3 B0 B1 B2 m) w W → W.cell? ⟨b, o + i, none⟩ = some (.int .i64 x)) := Lib.hid fun m W h => (h.below.cell hb).trans hc
        have HGL : Hid (∀ m W, Has (st3 B0 B1 B2 m) w W → g < W.heap.size) := Lib.hid fun m W h => match m, h with | 0, h => HG0.out W h | 1, h => HG1.out W h | _ + 2, h => (HRC.out W h).2.2
        have ewi : IntKind.i64.wrap ((i : Int) + 1) = (i : Int) + 1 := IntWalk.i64_in _ (by have := HL.out; omega)
        have u1 : (nv != nv) = false := by simp
        have u2 : (((i : Int) + 1) != ((i : Int) + 1)) = false := by simp
        have u3 : (kv != kv) = false := by cases kv <;> rfl
        clear hI t1 t2 hrl hnow hc' hH' hx hs hB0 hB1 hB2 hnv hkv hc hb
        go_wp2
        refine wp_region_exV (by kernel_rfl) (ClsB [5, 11] (fun m W => Has (st3 B0 B1 B2 m) w W) [12, 13, 21, 22, 28, 29] 11)
          [[(5, none)], [(1, none)], [(7, none)], [(32, some 1), (33, some 2)], [(34, some 3)], [(31, some 0), (35, some 4)], [(6, none)], [(1, none)], [(7, none)], [(38, some 7), (39, some 8)], [(40, some 9)], [(37, some 6), (41, some 10)], [(36, some 5), (42, some 11)], [(43, some 12)], [(5, none), (44, some 13)], [(44, some 13), (45, some 14)], [(6, none), (44, some 13)], [(44, some 13), (47, some 16)], [(44, some 13), (48, some 17)], [(44, some 13), (49, some 18)], [(44, some 13), (46, some 15), (50, some 19)], [(44, some 13), (51, some 20)], [(52, some 21)], [(5, none), (53, some 22)], [(53, some 22), (54, some 23)], [(7, none), (53, some 22)], [(53, some 22), (56, some 25)], [(53, some 22), (55, some 24), (57, some 26)], [(53, some 22), (58, some 27)], [(59, some 28)], [(5, none), (60, some 29)], [(60, some 29), (61, some 30)], [(6, none), (60, some 29)], [(60, some 29), (63, some 32)], [(60, some 29), (64, some 33)], [(60, some 29), (65, some 34)], [(60, some 29), (62, some 31), (66, some 35)], [(60, some 29), (67, some 36)]]
          [none, none, none, none, none, none, none, none, none, none, none, none, none, none, none, none, none, none, none, none, none, none, none, none, none, none, none, none, none, none, none, some 0, some 1, some 2, some 3, some 4, some 5, some 6, some 7, some 8, some 9, some 10, some 11, some 12, some 13, some 14, some 15, some 16, some 17, some 18, some 19, some 20, some 21, some 22, some 23, some 24, some 25, some 26, some 27, some 28, some 29, some 30, some 31, some 32, some 33, some 34, some 35, some 36, some 37, none] (by kernel_rfl) (by kernel_rfl) ⟨ClsN.start (HS.out.down HO0.out (Below.refl _ _).drew), fun _ _ h => by cases h⟩ ?_
        iterate 5
          refine exV_pure (c := ?_) (fun _ _ _ h => h.pure (by decide) (by decide)) ?_ ?_
          rotate_left
          · intro a' d' W hR hF
            simp only [FactsV, List.nil_append, List.cons_append, List.getD_cons_zero, List.getD_cons_succ, exists_eq_left, and_true, true_and, List.getElem?_toArray, List.getElem?_cons_zero, List.getElem?_cons_succ] at hF
            have hce := hR.1.all (C := fun W => W.cell? ⟨b, o + i, none⟩ = some (.int .i64 x)) (fun m W h => HBW.out m W h)
            refine ⟨?_, ?_⟩
            · simp [Region.wanted, yielded, hF]
            · go_simp
              with_reducible rfl
        refine exV_callv (fun v => v = .int .i64 nv) (fun a' d' W hd hR hF => ?_) ?_
        · skip
          simp only [FactsV, List.nil_append, List.cons_append, List.getD_cons_zero, List.getD_cons_succ, exists_eq_left, and_true, true_and, List.getElem?_toArray, List.getElem?_cons_zero, List.getElem?_cons_succ] at hF
          have h0 : Has B0 w W := hR.1.here (t := 0) rfl hd (fun _ _ h => absurd h (by omega))
          exact ⟨by simp [Region.wanted, yielded, hF], 12, #[.pointer (some ⟨p, 0, none⟩), .int .i64 x], by go_simp, (HT1.out W h0).mono fun r w' ⟨he, hw⟩ => ⟨_, he, hR.step (t := 0) (by decide) rfl (by decide) hd (fun _ _ h => absurd h (by omega)) hw, rfl⟩⟩
        iterate 5
          refine exV_pure (c := ?_) (fun _ _ _ h => h.pure (by decide) (by decide)) ?_ ?_
          rotate_left
          · intro a' d' W hR hF
            simp only [FactsV, List.nil_append, List.cons_append, List.getD_cons_zero, List.getD_cons_succ, exists_eq_left, and_true, true_and, List.getElem?_toArray, List.getElem?_cons_zero, List.getElem?_cons_succ] at hF
            have hce := hR.1.all (C := fun W => W.cell? ⟨b, o + i, none⟩ = some (.int .i64 x)) (fun m W h => HBW.out m W h)
            refine ⟨?_, ?_⟩
            · simp [Region.wanted, yielded, hF]
            · go_simp
              with_reducible rfl
        refine exV_callA (fun v => v = .int .i64 nv) (fun a' d' W hd hA hR hF => ?_) ?_
        · skip
          simp only [FactsV, List.nil_append, List.cons_append, List.getD_cons_zero, List.getD_cons_succ, exists_eq_left, and_true, true_and, List.getElem?_toArray, List.getElem?_cons_zero, List.getElem?_cons_succ] at hF
          have hp : ∀ j, ([5, 11] : List Nat)[1 - 1]? = some j → 0 < 1 → (d' j).isSome = true := fun j hj _ => by cases hj; exact hA ⟨5, .chain⟩ (by simp) (by decide)
          have h1 : Has B1 w W := hR.1.here (t := 1) rfl hd hp
          exact ⟨by simp [Region.wanted, yielded, hF], 13, #[.pointer (some ⟨g, 0, none⟩), .int .i64 x], by go_simp, (HT2.out W h1).mono fun r w' ⟨he, hw⟩ => ⟨_, he, hR.step (t := 1) (by decide) rfl (by decide) hd hp hw, rfl⟩⟩
        refine exV_hand (fun v => v = .bool false) (fun a' d' W hd hR hF => ?_) ?_
        · skip
          simp only [FactsV, List.nil_append, List.cons_append, List.getD_cons_zero, List.getD_cons_succ, exists_eq_left, and_true, true_and, List.getElem?_toArray, List.getElem?_cons_zero, List.getElem?_cons_succ] at hF
          exact ⟨by simp [Region.wanted, yielded, hF], .bool false, by first | (go_simp; done) | (go_simp; with_reducible rfl), rfl, hR.mark (by decide) (by rw [hF.2.2]; rfl)⟩
        refine exV_hand (fun v => v = .bool false) (fun a' d' W hd hR hF => ?_) ?_
        · skip
          simp only [FactsV, List.nil_append, List.cons_append, List.getD_cons_zero, List.getD_cons_succ, exists_eq_left, and_true, true_and, List.getElem?_toArray, List.getElem?_cons_zero, List.getElem?_cons_succ] at hF
          exact ⟨by simp [Region.wanted, yielded, hF], .bool false, by first | (go_simp; done) | (go_simp; with_reducible rfl), rfl, hR.mark (by decide) (hR.2 12 (by decide) (by rw [hF.2]; rfl))⟩
        iterate 1
          refine exV_pure (c := ?_) (fun _ _ _ h => h.pure (by decide) (by decide)) ?_ ?_
          rotate_left
          · intro a' d' W hR hF
            simp only [FactsV, List.nil_append, List.cons_append, List.getD_cons_zero, List.getD_cons_succ, exists_eq_left, and_true, true_and, List.getElem?_toArray, List.getElem?_cons_zero, List.getElem?_cons_succ] at hF
            refine ⟨?_, ?_⟩
            · simp [Region.wanted, yielded, hF]
            · go_simp
              with_reducible rfl
        refine exV_callv (fun v => v = .int .i64 nv) (fun a' d' W hd hR hF => ?_) ?_
        · skip
          simp only [FactsV, List.nil_append, List.cons_append, List.getD_cons_zero, List.getD_cons_succ, exists_eq_left, and_true, true_and, List.getElem?_toArray, List.getElem?_cons_zero, List.getElem?_cons_succ] at hF
          have h2 : Has B2 w W := hR.1.done (t := 1) (k := 11) rfl rfl (hR.2 13 (by decide) (by rw [hF.1.2]; rfl))
          exact ⟨by simp [Region.wanted, yielded, hF], 14, #[.pointer (some ⟨p, 0, none⟩)], by go_simp, (HNO.out W h2).mono fun r w' ⟨he, hw⟩ => ⟨_, he, hw ▸ hR.pure (by decide) (by decide), rfl⟩⟩
        iterate 3
          refine exV_pure (c := ?_) (fun _ _ _ h => h.pure (by decide) (by decide)) ?_ ?_
          rotate_left
          · intro a' d' W hR hF
            simp only [FactsV, List.nil_append, List.cons_append, List.getD_cons_zero, List.getD_cons_succ, exists_eq_left, and_true, true_and, List.getElem?_toArray, List.getElem?_cons_zero, List.getElem?_cons_succ] at hF
            have hgl : g < W.heap.size := hR.1.all (C := fun W => g < W.heap.size) (fun m W h => HGL.out m W h)
            refine ⟨?_, ?_⟩
            · simp [Region.wanted, yielded, hF]
            · go_simp
              with_reducible rfl
        iterate 1
          refine exV_pure (c := ?_) (fun _ _ _ h => h.pure (by decide) (by decide)) ?_ ?_
          rotate_left
          · intro a' d' W hR hF
            simp only [FactsV, List.nil_append, List.cons_append, List.getD_cons_zero, List.getD_cons_succ, exists_eq_left, and_true, true_and, List.getElem?_toArray, List.getElem?_cons_zero, List.getElem?_cons_succ] at hF
            obtain ⟨k0, k2, kl⟩ := HRC.out W (hR.1.done (t := 1) (k := 11) rfl rfl (hR.2 13 (by decide) (by rw [hF.1.2]; rfl)))
            refine ⟨?_, ?_⟩
            · simp [Region.wanted, yielded, hF]
            · go_simp
              with_reducible rfl
        iterate 1
          refine exV_pure (c := ?_) (fun _ _ _ h => h.pure (by decide) (by decide)) ?_ ?_
          rotate_left
          · intro a' d' W hR hF
            simp only [FactsV, List.nil_append, List.cons_append, List.getD_cons_zero, List.getD_cons_succ, exists_eq_left, and_true, true_and, List.getElem?_toArray, List.getElem?_cons_zero, List.getElem?_cons_succ] at hF
            refine ⟨?_, ?_⟩
            · simp [Region.wanted, yielded, hF]
            · go_simp
              with_reducible rfl
        refine exV_hand (fun v => v = .bool false) (fun a' d' W hd hR hF => ?_) ?_
        · skip
          simp only [FactsV, List.nil_append, List.cons_append, List.getD_cons_zero, List.getD_cons_succ, exists_eq_left, and_true, true_and, List.getElem?_toArray, List.getElem?_cons_zero, List.getElem?_cons_succ] at hF
          exact ⟨by simp [Region.wanted, yielded, hF], .bool false, by first | (go_simp; done) | (go_simp; with_reducible rfl), rfl, hR.mark (by decide) (hR.2 13 (by decide) (by rw [hF.1.2]; rfl))⟩
        refine exV_hand (fun v => v = .bool false) (fun a' d' W hd hR hF => ?_) ?_
        · skip
          simp only [FactsV, List.nil_append, List.cons_append, List.getD_cons_zero, List.getD_cons_succ, exists_eq_left, and_true, true_and, List.getElem?_toArray, List.getElem?_cons_zero, List.getElem?_cons_succ] at hF
          exact ⟨by simp [Region.wanted, yielded, hF], .bool false, by first | (go_simp; done) | (go_simp; with_reducible rfl), rfl, hR.mark (by decide) (hR.2 21 (by decide) (by rw [hF.2]; rfl))⟩
        iterate 1
          refine exV_pure (c := ?_) (fun _ _ _ h => h.pure (by decide) (by decide)) ?_ ?_
          rotate_left
          · intro a' d' W hR hF
            simp only [FactsV, List.nil_append, List.cons_append, List.getD_cons_zero, List.getD_cons_succ, exists_eq_left, and_true, true_and, List.getElem?_toArray, List.getElem?_cons_zero, List.getElem?_cons_succ] at hF
            refine ⟨?_, ?_⟩
            · simp [Region.wanted, yielded, hF]
            · go_simp
              with_reducible rfl
        refine exV_callv (fun v => v = .int .i64 ((i : Int) + 1)) (fun a' d' W hd hR hF => ?_) ?_
        · skip
          simp only [FactsV, List.nil_append, List.cons_append, List.getD_cons_zero, List.getD_cons_succ, exists_eq_left, and_true, true_and, List.getElem?_toArray, List.getElem?_cons_zero, List.getElem?_cons_succ] at hF
          have h2 : Has B2 w W := hR.1.done (t := 1) (k := 11) rfl rfl (hR.2 22 (by decide) (by rw [hF.1.2]; rfl))
          exact ⟨by simp [Region.wanted, yielded, hF], 15, #[.pointer (some ⟨p, 0, none⟩)], by go_simp, (HRE.out W h2).mono fun r w' ⟨he, hw⟩ => ⟨_, he, hw ▸ hR.pure (by decide) (by decide), rfl⟩⟩
        iterate 3
          refine exV_pure (c := ?_) (fun _ _ _ h => h.pure (by decide) (by decide)) ?_ ?_
          rotate_left
          · intro a' d' W hR hF
            simp only [FactsV, List.nil_append, List.cons_append, List.getD_cons_zero, List.getD_cons_succ, exists_eq_left, and_true, true_and, List.getElem?_toArray, List.getElem?_cons_zero, List.getElem?_cons_succ] at hF
            refine ⟨?_, ?_⟩
            · simp [Region.wanted, yielded, hF]
            · go_simp
              with_reducible rfl
        refine exV_hand (fun v => v = .bool false) (fun a' d' W hd hR hF => ?_) ?_
        · skip
          simp only [FactsV, List.nil_append, List.cons_append, List.getD_cons_zero, List.getD_cons_succ, exists_eq_left, and_true, true_and, List.getElem?_toArray, List.getElem?_cons_zero, List.getElem?_cons_succ] at hF
          exact ⟨by simp [Region.wanted, yielded, hF], .bool false, by first | (go_simp; done) | (go_simp; with_reducible rfl), rfl, hR.mark (by decide) (hR.2 22 (by decide) (by rw [hF.1.2]; rfl))⟩
        refine exV_hand (fun v => v = .bool false) (fun a' d' W hd hR hF => ?_) ?_
        · skip
          simp only [FactsV, List.nil_append, List.cons_append, List.getD_cons_zero, List.getD_cons_succ, exists_eq_left, and_true, true_and, List.getElem?_toArray, List.getElem?_cons_zero, List.getElem?_cons_succ] at hF
          exact ⟨by simp [Region.wanted, yielded, hF], .bool false, by first | (go_simp; done) | (go_simp; with_reducible rfl), rfl, hR.mark (by decide) (hR.2 28 (by decide) (by rw [hF.2]; rfl))⟩
        iterate 1
          refine exV_pure (c := ?_) (fun _ _ _ h => h.pure (by decide) (by decide)) ?_ ?_
          rotate_left
          · intro a' d' W hR hF
            simp only [FactsV, List.nil_append, List.cons_append, List.getD_cons_zero, List.getD_cons_succ, exists_eq_left, and_true, true_and, List.getElem?_toArray, List.getElem?_cons_zero, List.getElem?_cons_succ] at hF
            refine ⟨?_, ?_⟩
            · simp [Region.wanted, yielded, hF]
            · go_simp
              with_reducible rfl
        refine exV_callv (fun v => v = .bool kv) (fun a' d' W hd hR hF => ?_) ?_
        · skip
          simp only [FactsV, List.nil_append, List.cons_append, List.getD_cons_zero, List.getD_cons_succ, exists_eq_left, and_true, true_and, List.getElem?_toArray, List.getElem?_cons_zero, List.getElem?_cons_succ] at hF
          have h2 : Has B2 w W := hR.1.done (t := 1) (k := 11) rfl rfl (hR.2 29 (by decide) (by rw [hF.1.2]; rfl))
          exact ⟨by simp [Region.wanted, yielded, hF], 11, #[.pointer (some ⟨p, 0, none⟩)], by go_simp, (HKP.out W h2).mono fun r w' ⟨he, hw⟩ => ⟨_, he, hw ▸ hR.pure (by decide) (by decide), rfl⟩⟩
        iterate 3
          refine exV_pure (c := ?_) (fun _ _ _ h => h.pure (by decide) (by decide)) ?_ ?_
          rotate_left
          · intro a' d' W hR hF
            simp only [FactsV, List.nil_append, List.cons_append, List.getD_cons_zero, List.getD_cons_succ, exists_eq_left, and_true, true_and, List.getElem?_toArray, List.getElem?_cons_zero, List.getElem?_cons_succ] at hF
            have hgl : g < W.heap.size := hR.1.all (C := fun W => g < W.heap.size) (fun m W h => HGL.out m W h)
            refine ⟨?_, ?_⟩
            · simp [Region.wanted, yielded, hF]
            · go_simp
              with_reducible rfl
        iterate 1
          refine exV_pure (c := ?_) (fun _ _ _ h => h.pure (by decide) (by decide)) ?_ ?_
          rotate_left
          · intro a' d' W hR hF
            simp only [FactsV, List.nil_append, List.cons_append, List.getD_cons_zero, List.getD_cons_succ, exists_eq_left, and_true, true_and, List.getElem?_toArray, List.getElem?_cons_zero, List.getElem?_cons_succ] at hF
            obtain ⟨k0, k2, kl⟩ := HRC.out W (hR.1.done (t := 1) (k := 11) rfl rfl (hR.2 29 (by decide) (by rw [hF.1.2]; rfl)))
            refine ⟨?_, ?_⟩
            · simp [Region.wanted, yielded, hF]
            · go_simp
              with_reducible rfl
        iterate 2
          refine exV_pure (c := ?_) (fun _ _ _ h => h.pure (by decide) (by decide)) ?_ ?_
          rotate_left
          · intro a' d' W hR hF
            simp only [FactsV, List.nil_append, List.cons_append, List.getD_cons_zero, List.getD_cons_succ, exists_eq_left, and_true, true_and, List.getElem?_toArray, List.getElem?_cons_zero, List.getElem?_cons_succ] at hF
            refine ⟨?_, ?_⟩
            · simp [Region.wanted, yielded, hF]
            · go_simp
              with_reducible rfl
        show ∀ d W, _ → _ → _
        intro d w5 hA2 hR2
        simp only [FinV, List.nil_append, List.cons_append, List.getD_cons_zero, List.getD_cons_succ, forall_eq, forall_const, true_implies, forall_exists_index, and_imp, Nat.reduceAdd, Array.getD_eq_getD_getElem?, List.getElem?_toArray, List.getElem?_cons_zero, List.getElem?_cons_succ, Option.getD_some]
        have hR3 : Has B2 w w5 := hR2.1.done (t := 1) (k := 11) rfl rfl (hA2 11 (by decide))
        have HR3 := Lib.hid hR3
        clear hR2 hA2 hR3
        iterate 38 intro _
        go_wp2
        go_roundw
        case rel => exact ⟨i + 1, by omega, by go_num, Lib.hid (HREL.out ▸ HR3.out)⟩
        case measure => simp [intOf]; omega
      · obtain rfl : i = l.length := by omega
        have HB := Lib.hid hI.out.below
        have HA := Lib.hid (alive16_any wr)
        clear hI
        go_wp2_with fail
        refine HA.out.mono ?_
        rintro e w2 ⟨rfl, hb⟩
        have HB2 := Lib.hid (HB.out.trans (hb.mono HB.out.size))
        clear hb
        go_wp2
        go_ret
        exact ⟨rfl, HB2.out⟩
  · go_wp2_with fail
    have HZ := Lib.hid (ck_new (w1.alloc (.cells #[.int .i64 0, .slice none 0 0, .bool true] 28)))
    have HH0 := ((HX.out.snd (holdRK _ _ _)).with_ (holdRK _ _ _) HZ.out).imp fun S h => Both.swap h
    have hz : (w1.alloc (.cells #[.int .i64 0, .slice none 0 0, .bool true] 28)).heap.size = w1.heap.size + 1 := World.size_alloc ..
    rw [hz] at HH0
    have HH : Hid (Has (Both (CK (w1.heap.size + 1) (runC (l.take 0))) (RK w1.heap.size (cl (l.take 0)) (!(runC (l.take 0)).b))) w ((w1.alloc (.cells #[.int .i64 0, .slice none 0 0, .bool true] 28)).alloc (.cells #[.int .i64 0, .int .i64 0, .pointer none, .bool false] 31))) := Lib.hid HH0
    clear HH0 HZ hz
    obtain ⟨g, hg⟩ : ∃ g, g = w1.heap.size := ⟨_, rfl⟩
    obtain ⟨p, hp⟩ : ∃ p, p = g + 1 := ⟨_, rfl⟩
    rw [← hg, ← hp] at HH ⊢
    clear HX HRK hg hp HCZ
    have HK0 := tkept_any (HH.out.fst (holdCK _ _)).here
    rw [show (!(runC (l.take 0)).b) = true from rfl] at HK0
    refine HK0.mono ?_
    rintro e w' ⟨rfl, rfl⟩
    clear HK0
    go_wp2_with fail
    go_loopw [7] (fun iv wr => ∃ i : Nat, i ≤ l.length ∧ iv = .int .i64 (i : Int) ∧ Hid (Has (Both (CK p (runC (l.take i))) (RK g (cl (l.take i)) (!(runC (l.take i)).b))) w wr)) (fun i _ => l.length - (intOf i).toNat)
    case atStart => exact ⟨0, by omega, rfl, HH⟩
    case round =>
      obtain ⟨i, hi, rfl, hI⟩ := hrel
      by_cases hlt : i < l.length
      · obtain ⟨b, o, rfl, hb, hc⟩ := H3.out i hlt
        have hltI : (i : Int) < (l.length : Int) := by omega
        obtain ⟨t1, t2⟩ := clock_round p g l i hlt HL.out
        have hrl : ((runC (l.take (i + 1))).real : Int) = (i : Int) + 1 := by rw [run_real, List.length_take]; omega
        obtain ⟨B0, hB0⟩ : ∃ B, B = Both (CK p (runC (l.take i))) (RK g (cl (l.take i)) (!(runC (l.take i)).b)) := ⟨_, rfl⟩
        obtain ⟨B1, hB1⟩ : ∃ B, B = Both (CK p (runC (l.take (i + 1)))) (RK g (cl (l.take i)) (!(runC (l.take i)).b)) := ⟨_, rfl⟩
        have HO0 : Hid (Hold B0) := Lib.hid (hB0 ▸ (holdCK _ _).both (holdRK _ _ _))
        have HG0 : Hid (∀ W, Has B0 w W → g < W.heap.size) := Lib.hid fun W h => by
          rw [hB0] at h
          obtain ⟨_, _, h9⟩ := (h.snd (holdRK _ _ _)).here
          exact h9.sits.lt
        have HG1 : Hid (∀ W, Has B1 w W → g < W.heap.size) := Lib.hid fun W h => by
          rw [hB1] at h
          obtain ⟨_, _, h9⟩ := (h.snd (holdRK _ _ _)).here
          exact h9.sits.lt
        have hnow : (cl (l.take (i + 1))).sum = (runC (l.take (i + 1))).now := (run_now _).symm
        have hq : Hid (runC (l.take (i + 1)) = runC (l.take (i + 1))) := Lib.hid rfl
        obtain ⟨c', hc'⟩ : ∃ c', c' = runC (l.take (i + 1)) := ⟨_, rfl⟩
        obtain ⟨H', hH'⟩ : ∃ H', H' = cl (l.take (i + 1)) := ⟨_, rfl⟩
        obtain ⟨x, hx⟩ : ∃ x, x = l[i] := ⟨_, rfl⟩
        have hs := hI.out
        rw [← hB0] at hs
        rw [← hB0, ← hB1, ← hc', ← hx] at t1
        rw [← hB1, ← hc', ← hH', ← hx] at t2
        rw [← hc'] at hrl hnow
        rw [← hH'] at hnow
        rw [← hx] at hc
        have HREL : Hid (Both (CK p c') (RK g H' (!c'.b)) = Both (CK p (runC (l.take (i + 1)))) (RK g (cl (l.take (i + 1))) (!(runC (l.take (i + 1))).b))) := Lib.hid (by rw [hc', hH'])
        have HT1 := Lib.hid (fun W (h : Has B0 w W) => t1.has h)
        have HT2 := Lib.hid (fun W (h : Has B1 w W) => t2.has h)
        have HKP := Lib.hid (fun W (h : Has (Both (CK p c') (RK g H' (!c'.b))) w W) => tkept_any (h.fst (holdCK _ _)).here)
        have HRE := Lib.hid (fun W (h : Has (Both (CK p c') (RK g H' (!c'.b))) w W) => treal_any (h.fst (holdCK _ _)).here)
        have HNO := Lib.hid (fun W (h : Has (Both (CK p c') (RK g H' (!c'.b))) w W) => tnow_any (h.fst (holdCK _ _)).here)
        rw [hrl] at HRE
        have HRC : Hid (∀ W, Has (Both (CK p c') (RK g H' (!c'.b))) w W → W.cell? ⟨g, 0, none⟩ = some (.int .i64 c'.now) ∧ W.cell? ⟨g, 2, none⟩ = some (.bool (!c'.b)) ∧ g < W.heap.size) := Lib.hid fun W h => by
          obtain ⟨_, _, h9⟩ := (h.snd (holdRK _ _ _)).here
          have := h9.sits.cell 0
          rw [hnow] at this
          exact ⟨this, h9.sits.cell 2, h9.sits.lt⟩
        obtain ⟨B2, hB2⟩ : ∃ B, B = Both (CK p c') (RK g H' (!c'.b)) := ⟨_, rfl⟩
        rw [← hB2] at HREL HT2 HKP HRE HNO HRC
        obtain ⟨nv, hnv⟩ : ∃ n, n = c'.now := ⟨_, rfl⟩
        obtain ⟨kv, hkv⟩ : ∃ n, n = !c'.b := ⟨_, rfl⟩
        rw [← hnv] at HT1 HT2 HNO HRC
        rw [← hkv] at HKP HRC
        have HS := Lib.hid hs
        have HBW : Hid (∀ m W, Has (st3 B0 B1 B2 m) w W → W.cell? ⟨b, o + i, none⟩ = some (.int .i64 x)) := Lib.hid fun m W h => (h.below.cell hb).trans hc
        have HGL : Hid (∀ m W, Has (st3 B0 B1 B2 m) w W → g < W.heap.size) := Lib.hid fun m W h => match m, h with | 0, h => HG0.out W h | 1, h => HG1.out W h | _ + 2, h => (HRC.out W h).2.2
        have ewi : IntKind.i64.wrap ((i : Int) + 1) = (i : Int) + 1 := IntWalk.i64_in _ (by have := HL.out; omega)
        have u1 : (nv != nv) = false := by simp
        have u2 : (((i : Int) + 1) != ((i : Int) + 1)) = false := by simp
        have u3 : (kv != kv) = false := by cases kv <;> rfl
        clear hI t1 t2 hrl hnow hc' hH' hx hs hB0 hB1 hB2 hnv hkv hc hb
        go_wp2
        refine wp_region_exV (by kernel_rfl) (ClsB [5, 11] (fun m W => Has (st3 B0 B1 B2 m) w W) [12, 13, 21, 22, 28, 29] 11)
          [[(5, none)], [(1, none)], [(7, none)], [(32, some 1), (33, some 2)], [(34, some 3)], [(31, some 0), (35, some 4)], [(6, none)], [(1, none)], [(7, none)], [(38, some 7), (39, some 8)], [(40, some 9)], [(37, some 6), (41, some 10)], [(36, some 5), (42, some 11)], [(43, some 12)], [(5, none), (44, some 13)], [(44, some 13), (45, some 14)], [(6, none), (44, some 13)], [(44, some 13), (47, some 16)], [(44, some 13), (48, some 17)], [(44, some 13), (49, some 18)], [(44, some 13), (46, some 15), (50, some 19)], [(44, some 13), (51, some 20)], [(52, some 21)], [(5, none), (53, some 22)], [(53, some 22), (54, some 23)], [(7, none), (53, some 22)], [(53, some 22), (56, some 25)], [(53, some 22), (55, some 24), (57, some 26)], [(53, some 22), (58, some 27)], [(59, some 28)], [(5, none), (60, some 29)], [(60, some 29), (61, some 30)], [(6, none), (60, some 29)], [(60, some 29), (63, some 32)], [(60, some 29), (64, some 33)], [(60, some 29), (65, some 34)], [(60, some 29), (62, some 31), (66, some 35)], [(60, some 29), (67, some 36)]]
          [none, none, none, none, none, none, none, none, none, none, none, none, none, none, none, none, none, none, none, none, none, none, none, none, none, none, none, none, none, none, none, some 0, some 1, some 2, some 3, some 4, some 5, some 6, some 7, some 8, some 9, some 10, some 11, some 12, some 13, some 14, some 15, some 16, some 17, some 18, some 19, some 20, some 21, some 22, some 23, some 24, some 25, some 26, some 27, some 28, some 29, some 30, some 31, some 32, some 33, some 34, some 35, some 36, some 37, none] (by kernel_rfl) (by kernel_rfl) ⟨ClsN.start (HS.out.down HO0.out (Below.refl _ _).drew), fun _ _ h => by cases h⟩ ?_
        iterate 5
          refine exV_pure (c := ?_) (fun _ _ _ h => h.pure (by decide) (by decide)) ?_ ?_
          rotate_left
          · intro a' d' W hR hF
            simp only [FactsV, List.nil_append, List.cons_append, List.getD_cons_zero, List.getD_cons_succ, exists_eq_left, and_true, true_and, List.getElem?_toArray, List.getElem?_cons_zero, List.getElem?_cons_succ] at hF
            have hce := hR.1.all (C := fun W => W.cell? ⟨b, o + i, none⟩ = some (.int .i64 x)) (fun m W h => HBW.out m W h)
            refine ⟨?_, ?_⟩
            · simp [Region.wanted, yielded, hF]
            · go_simp
              with_reducible rfl
        refine exV_callv (fun v => v = .int .i64 nv) (fun a' d' W hd hR hF => ?_) ?_
        · skip
          simp only [FactsV, List.nil_append, List.cons_append, List.getD_cons_zero, List.getD_cons_succ, exists_eq_left, and_true, true_and, List.getElem?_toArray, List.getElem?_cons_zero, List.getElem?_cons_succ] at hF
          have h0 : Has B0 w W := hR.1.here (t := 0) rfl hd (fun _ _ h => absurd h (by omega))
          exact ⟨by simp [Region.wanted, yielded, hF], 12, #[.pointer (some ⟨p, 0, none⟩), .int .i64 x], by go_simp, (HT1.out W h0).mono fun r w' ⟨he, hw⟩ => ⟨_, he, hR.step (t := 0) (by decide) rfl (by decide) hd (fun _ _ h => absurd h (by omega)) hw, rfl⟩⟩
        iterate 5
          refine exV_pure (c := ?_) (fun _ _ _ h => h.pure (by decide) (by decide)) ?_ ?_
          rotate_left
          · intro a' d' W hR hF
            simp only [FactsV, List.nil_append, List.cons_append, List.getD_cons_zero, List.getD_cons_succ, exists_eq_left, and_true, true_and, List.getElem?_toArray, List.getElem?_cons_zero, List.getElem?_cons_succ] at hF
            have hce := hR.1.all (C := fun W => W.cell? ⟨b, o + i, none⟩ = some (.int .i64 x)) (fun m W h => HBW.out m W h)
            refine ⟨?_, ?_⟩
            · simp [Region.wanted, yielded, hF]
            · go_simp
              with_reducible rfl
        refine exV_callA (fun v => v = .int .i64 nv) (fun a' d' W hd hA hR hF => ?_) ?_
        · skip
          simp only [FactsV, List.nil_append, List.cons_append, List.getD_cons_zero, List.getD_cons_succ, exists_eq_left, and_true, true_and, List.getElem?_toArray, List.getElem?_cons_zero, List.getElem?_cons_succ] at hF
          have hp : ∀ j, ([5, 11] : List Nat)[1 - 1]? = some j → 0 < 1 → (d' j).isSome = true := fun j hj _ => by cases hj; exact hA ⟨5, .chain⟩ (by simp) (by decide)
          have h1 : Has B1 w W := hR.1.here (t := 1) rfl hd hp
          exact ⟨by simp [Region.wanted, yielded, hF], 13, #[.pointer (some ⟨g, 0, none⟩), .int .i64 x], by go_simp, (HT2.out W h1).mono fun r w' ⟨he, hw⟩ => ⟨_, he, hR.step (t := 1) (by decide) rfl (by decide) hd hp hw, rfl⟩⟩
        refine exV_hand (fun v => v = .bool false) (fun a' d' W hd hR hF => ?_) ?_
        · skip
          simp only [FactsV, List.nil_append, List.cons_append, List.getD_cons_zero, List.getD_cons_succ, exists_eq_left, and_true, true_and, List.getElem?_toArray, List.getElem?_cons_zero, List.getElem?_cons_succ] at hF
          exact ⟨by simp [Region.wanted, yielded, hF], .bool false, by first | (go_simp; done) | (go_simp; with_reducible rfl), rfl, hR.mark (by decide) (by rw [hF.2.2]; rfl)⟩
        refine exV_hand (fun v => v = .bool false) (fun a' d' W hd hR hF => ?_) ?_
        · skip
          simp only [FactsV, List.nil_append, List.cons_append, List.getD_cons_zero, List.getD_cons_succ, exists_eq_left, and_true, true_and, List.getElem?_toArray, List.getElem?_cons_zero, List.getElem?_cons_succ] at hF
          exact ⟨by simp [Region.wanted, yielded, hF], .bool false, by first | (go_simp; done) | (go_simp; with_reducible rfl), rfl, hR.mark (by decide) (hR.2 12 (by decide) (by rw [hF.2]; rfl))⟩
        iterate 1
          refine exV_pure (c := ?_) (fun _ _ _ h => h.pure (by decide) (by decide)) ?_ ?_
          rotate_left
          · intro a' d' W hR hF
            simp only [FactsV, List.nil_append, List.cons_append, List.getD_cons_zero, List.getD_cons_succ, exists_eq_left, and_true, true_and, List.getElem?_toArray, List.getElem?_cons_zero, List.getElem?_cons_succ] at hF
            refine ⟨?_, ?_⟩
            · simp [Region.wanted, yielded, hF]
            · go_simp
              with_reducible rfl
        refine exV_callv (fun v => v = .int .i64 nv) (fun a' d' W hd hR hF => ?_) ?_
        · skip
          simp only [FactsV, List.nil_append, List.cons_append, List.getD_cons_zero, List.getD_cons_succ, exists_eq_left, and_true, true_and, List.getElem?_toArray, List.getElem?_cons_zero, List.getElem?_cons_succ] at hF
          have h2 : Has B2 w W := hR.1.done (t := 1) (k := 11) rfl rfl (hR.2 13 (by decide) (by rw [hF.1.2]; rfl))
          exact ⟨by simp [Region.wanted, yielded, hF], 14, #[.pointer (some ⟨p, 0, none⟩)], by go_simp, (HNO.out W h2).mono fun r w' ⟨he, hw⟩ => ⟨_, he, hw ▸ hR.pure (by decide) (by decide), rfl⟩⟩
        iterate 3
          refine exV_pure (c := ?_) (fun _ _ _ h => h.pure (by decide) (by decide)) ?_ ?_
          rotate_left
          · intro a' d' W hR hF
            simp only [FactsV, List.nil_append, List.cons_append, List.getD_cons_zero, List.getD_cons_succ, exists_eq_left, and_true, true_and, List.getElem?_toArray, List.getElem?_cons_zero, List.getElem?_cons_succ] at hF
            have hgl : g < W.heap.size := hR.1.all (C := fun W => g < W.heap.size) (fun m W h => HGL.out m W h)
            refine ⟨?_, ?_⟩
            · simp [Region.wanted, yielded, hF]
            · go_simp
              with_reducible rfl
        iterate 1
          refine exV_pure (c := ?_) (fun _ _ _ h => h.pure (by decide) (by decide)) ?_ ?_
          rotate_left
          · intro a' d' W hR hF
            simp only [FactsV, List.nil_append, List.cons_append, List.getD_cons_zero, List.getD_cons_succ, exists_eq_left, and_true, true_and, List.getElem?_toArray, List.getElem?_cons_zero, List.getElem?_cons_succ] at hF
            obtain ⟨k0, k2, kl⟩ := HRC.out W (hR.1.done (t := 1) (k := 11) rfl rfl (hR.2 13 (by decide) (by rw [hF.1.2]; rfl)))
            refine ⟨?_, ?_⟩
            · simp [Region.wanted, yielded, hF]
            · go_simp
              with_reducible rfl
        iterate 1
          refine exV_pure (c := ?_) (fun _ _ _ h => h.pure (by decide) (by decide)) ?_ ?_
          rotate_left
          · intro a' d' W hR hF
            simp only [FactsV, List.nil_append, List.cons_append, List.getD_cons_zero, List.getD_cons_succ, exists_eq_left, and_true, true_and, List.getElem?_toArray, List.getElem?_cons_zero, List.getElem?_cons_succ] at hF
            refine ⟨?_, ?_⟩
            · simp [Region.wanted, yielded, hF]
            · go_simp
              with_reducible rfl
        refine exV_hand (fun v => v = .bool false) (fun a' d' W hd hR hF => ?_) ?_
        · skip
          simp only [FactsV, List.nil_append, List.cons_append, List.getD_cons_zero, List.getD_cons_succ, exists_eq_left, and_true, true_and, List.getElem?_toArray, List.getElem?_cons_zero, List.getElem?_cons_succ] at hF
          exact ⟨by simp [Region.wanted, yielded, hF], .bool false, by first | (go_simp; done) | (go_simp; with_reducible rfl), rfl, hR.mark (by decide) (hR.2 13 (by decide) (by rw [hF.1.2]; rfl))⟩
        refine exV_hand (fun v => v = .bool false) (fun a' d' W hd hR hF => ?_) ?_
        · skip
          simp only [FactsV, List.nil_append, List.cons_append, List.getD_cons_zero, List.getD_cons_succ, exists_eq_left, and_true, true_and, List.getElem?_toArray, List.getElem?_cons_zero, List.getElem?_cons_succ] at hF
          exact ⟨by simp [Region.wanted, yielded, hF], .bool false, by first | (go_simp; done) | (go_simp; with_reducible rfl), rfl, hR.mark (by decide) (hR.2 21 (by decide) (by rw [hF.2]; rfl))⟩
        iterate 1
          refine exV_pure (c := ?_) (fun _ _ _ h => h.pure (by decide) (by decide)) ?_ ?_
          rotate_left
          · intro a' d' W hR hF
            simp only [FactsV, List.nil_append, List.cons_append, List.getD_cons_zero, List.getD_cons_succ, exists_eq_left, and_true, true_and, List.getElem?_toArray, List.getElem?_cons_zero, List.getElem?_cons_succ] at hF
            refine ⟨?_, ?_⟩
            · simp [Region.wanted, yielded, hF]
            · go_simp
              with_reducible rfl
        refine exV_callv (fun v => v = .int .i64 ((i : Int) + 1)) (fun a' d' W hd hR hF => ?_) ?_
        · skip
          simp only [FactsV, List.nil_append, List.cons_append, List.getD_cons_zero, List.getD_cons_succ, exists_eq_left, and_true, true_and, List.getElem?_toArray, List.getElem?_cons_zero, List.getElem?_cons_succ] at hF
          have h2 : Has B2 w W := hR.1.done (t := 1) (k := 11) rfl rfl (hR.2 22 (by decide) (by rw [hF.1.2]; rfl))
          exact ⟨by simp [Region.wanted, yielded, hF], 15, #[.pointer (some ⟨p, 0, none⟩)], by go_simp, (HRE.out W h2).mono fun r w' ⟨he, hw⟩ => ⟨_, he, hw ▸ hR.pure (by decide) (by decide), rfl⟩⟩
        iterate 3
          refine exV_pure (c := ?_) (fun _ _ _ h => h.pure (by decide) (by decide)) ?_ ?_
          rotate_left
          · intro a' d' W hR hF
            simp only [FactsV, List.nil_append, List.cons_append, List.getD_cons_zero, List.getD_cons_succ, exists_eq_left, and_true, true_and, List.getElem?_toArray, List.getElem?_cons_zero, List.getElem?_cons_succ] at hF
            refine ⟨?_, ?_⟩
            · simp [Region.wanted, yielded, hF]
            · go_simp
              with_reducible rfl
        refine exV_hand (fun v => v = .bool false) (fun a' d' W hd hR hF => ?_) ?_
        · skip
          simp only [FactsV, List.nil_append, List.cons_append, List.getD_cons_zero, List.getD_cons_succ, exists_eq_left, and_true, true_and, List.getElem?_toArray, List.getElem?_cons_zero, List.getElem?_cons_succ] at hF
          exact ⟨by simp [Region.wanted, yielded, hF], .bool false, by first | (go_simp; done) | (go_simp; with_reducible rfl), rfl, hR.mark (by decide) (hR.2 22 (by decide) (by rw [hF.1.2]; rfl))⟩
        refine exV_hand (fun v => v = .bool false) (fun a' d' W hd hR hF => ?_) ?_
        · skip
          simp only [FactsV, List.nil_append, List.cons_append, List.getD_cons_zero, List.getD_cons_succ, exists_eq_left, and_true, true_and, List.getElem?_toArray, List.getElem?_cons_zero, List.getElem?_cons_succ] at hF
          exact ⟨by simp [Region.wanted, yielded, hF], .bool false, by first | (go_simp; done) | (go_simp; with_reducible rfl), rfl, hR.mark (by decide) (hR.2 28 (by decide) (by rw [hF.2]; rfl))⟩
        iterate 1
          refine exV_pure (c := ?_) (fun _ _ _ h => h.pure (by decide) (by decide)) ?_ ?_
          rotate_left
          · intro a' d' W hR hF
            simp only [FactsV, List.nil_append, List.cons_append, List.getD_cons_zero, List.getD_cons_succ, exists_eq_left, and_true, true_and, List.getElem?_toArray, List.getElem?_cons_zero, List.getElem?_cons_succ] at hF
            refine ⟨?_, ?_⟩
            · simp [Region.wanted, yielded, hF]
            · go_simp
              with_reducible rfl
        refine exV_callv (fun v => v = .bool kv) (fun a' d' W hd hR hF => ?_) ?_
        · skip
          simp only [FactsV, List.nil_append, List.cons_append, List.getD_cons_zero, List.getD_cons_succ, exists_eq_left, and_true, true_and, List.getElem?_toArray, List.getElem?_cons_zero, List.getElem?_cons_succ] at hF
          have h2 : Has B2 w W := hR.1.done (t := 1) (k := 11) rfl rfl (hR.2 29 (by decide) (by rw [hF.1.2]; rfl))
          exact ⟨by simp [Region.wanted, yielded, hF], 11, #[.pointer (some ⟨p, 0, none⟩)], by go_simp, (HKP.out W h2).mono fun r w' ⟨he, hw⟩ => ⟨_, he, hw ▸ hR.pure (by decide) (by decide), rfl⟩⟩
        iterate 3
          refine exV_pure (c := ?_) (fun _ _ _ h => h.pure (by decide) (by decide)) ?_ ?_
          rotate_left
          · intro a' d' W hR hF
            simp only [FactsV, List.nil_append, List.cons_append, List.getD_cons_zero, List.getD_cons_succ, exists_eq_left, and_true, true_and, List.getElem?_toArray, List.getElem?_cons_zero, List.getElem?_cons_succ] at hF
            have hgl : g < W.heap.size := hR.1.all (C := fun W => g < W.heap.size) (fun m W h => HGL.out m W h)
            refine ⟨?_, ?_⟩
            · simp [Region.wanted, yielded, hF]
            · go_simp
              with_reducible rfl
        iterate 1
          refine exV_pure (c := ?_) (fun _ _ _ h => h.pure (by decide) (by decide)) ?_ ?_
          rotate_left
          · intro a' d' W hR hF
            simp only [FactsV, List.nil_append, List.cons_append, List.getD_cons_zero, List.getD_cons_succ, exists_eq_left, and_true, true_and, List.getElem?_toArray, List.getElem?_cons_zero, List.getElem?_cons_succ] at hF
            obtain ⟨k0, k2, kl⟩ := HRC.out W (hR.1.done (t := 1) (k := 11) rfl rfl (hR.2 29 (by decide) (by rw [hF.1.2]; rfl)))
            refine ⟨?_, ?_⟩
            · simp [Region.wanted, yielded, hF]
            · go_simp
              with_reducible rfl
        iterate 2
          refine exV_pure (c := ?_) (fun _ _ _ h => h.pure (by decide) (by decide)) ?_ ?_
          rotate_left
          · intro a' d' W hR hF
            simp only [FactsV, List.nil_append, List.cons_append, List.getD_cons_zero, List.getD_cons_succ, exists_eq_left, and_true, true_and, List.getElem?_toArray, List.getElem?_cons_zero, List.getElem?_cons_succ] at hF
            refine ⟨?_, ?_⟩
            · simp [Region.wanted, yielded, hF]
            · go_simp
              with_reducible rfl
        show ∀ d W, _ → _ → _
        intro d w5 hA2 hR2
        simp only [FinV, List.nil_append, List.cons_append, List.getD_cons_zero, List.getD_cons_succ, forall_eq, forall_const, true_implies, forall_exists_index, and_imp, Nat.reduceAdd, Array.getD_eq_getD_getElem?, List.getElem?_toArray, List.getElem?_cons_zero, List.getElem?_cons_succ, Option.getD_some]
        have hR3 : Has B2 w w5 := hR2.1.done (t := 1) (k := 11) rfl rfl (hA2 11 (by decide))
        have HR3 := Lib.hid hR3
        clear hR2 hA2 hR3
        iterate 38 intro _
        go_wp2
        go_roundw
        case rel => exact ⟨i + 1, by omega, by go_num, Lib.hid (HREL.out ▸ HR3.out)⟩
        case measure => simp [intOf]; omega
      · obtain rfl : i = l.length := by omega
        have HB := Lib.hid hI.out.below
        have HA := Lib.hid (alive16_any wr)
        clear hI
        go_wp2_with fail
        refine HA.out.mono ?_
        rintro e w2 ⟨rfl, hb⟩
        have HB2 := Lib.hid (HB.out.trans (hb.mono HB.out.size))
        clear hb
        go_wp2
        go_ret
        exact ⟨rfl, HB2.out⟩

set_option maxRecDepth 100000 in
theorem clockPlays_lifted (os : Os) (started : os.Started) (H : Type) (enc : TypeId × Value → H) :
    ReturnsInHanded {} Try.checked os 3 .any (Rows.clockPlaysSpec.pre6 enc Try.prog Try.f3 Rows.clockPlaysRow.domain false) (Rows.clockPlaysSpec.post enc Try.prog Try.f3 false true false false) := by
  refine returnsInHanded_of_change (C := Try.checked) own started (by kernel_rfl) Try.func3
    (ChangeSpec.witness6 (enc := enc) (C := Try.checked) false ⟨#[], #[.bool false, .slice none 0 0], []⟩ 8 (by kernel_rfl) (by kernel_rfl) (by kernel_rfl) (by kernel_rfl)) ?_
  intro W base args ds gs before hval0 hW _ _
  have hval : ∀ (j : Nat) t v, Try.f3.params[j]? = some t → args[j]? = some v → Value.okWide Try.prog W .any base t v := hval0
  have hW' := hW
  obtain ⟨p, q, hA0, hV, rfl, hfz, hnd⟩ := hW
  have hA : DataW.TrodAll enc Try.prog W 0 (fun _ => true) true Try.f3.params.toList args.toList ds p := hA0
  rw [Try.params3] at hA hval
  obtain ⟨v0, vs0, d0, ds0, p0, q0, hargs, rfl, rfl, h0, r0⟩ := trodAll_cons hA
  obtain ⟨v1, vs1, d1, ds1, p1, q1, rfl, rfl, rfl, h1, r1⟩ := trodAll_cons r0
  obtain ⟨rfl, rfl, rfl⟩ := trodAll_nil r1
  obtain rfl : args = #[v0, v1] := by cases args; simp_all
  obtain ⟨rfl, rfl⟩ := trodVars_none hV
  have k0 := h0
  have lt0 : ∀ x ∈ p0, x.block < W.heap.size := by obtain ⟨m, hm⟩ := k0; exact DataW.trod_lt m _ _ _ hm
  have k1 := h1
  have lt1 : ∀ x ∈ p1, x.block < W.heap.size := by obtain ⟨m, hm⟩ := k1; exact DataW.trod_lt m _ _ _ hm
  obtain ⟨a0, rfl, rfl, rfl⟩ := open_bool Try.underlying4 (hval 0 4 v0 rfl rfl) h0
  obtain ⟨a1, w1⟩ := ints_open (hval 1 22 v1 rfl rfl) k1
  clear hA0 hval0
  refine (clockPlays_walk a0 v1 a1 W w1).mono fun e W' ⟨he, bel⟩ => ?_
  subst he
  exact ⟨_, rfl, _, _, _, [], _, [], hW', trodAll_mk1 (shut_bool Try.underlying4 _), (trodAll_cons_mk (Below.trod laidOut (by kernel_rfl) (of_decide_eq_true (by kernel_rfl)) k0 bel lt0) (trodAll_cons_mk (Below.trod laidOut (by kernel_rfl) (of_decide_eq_true (by kernel_rfl)) k1 bel lt1) trodAll_mk0)), rfl, bel.frame _, fun h => by cases h⟩

theorem clockPlays_said : Rows.ClockPlaysSaid :=
  OpenClaim.holds_of_wide 3 Try.f3 rfl rfl rfl rfl rfl rfl rfl ⟨rfl, rfl, rfl, rfl, rfl⟩ rfl rfl rfl rfl rfl (by kernel_rfl) Try.func3 (by unfold joinedFacts; simp only [Bool.and_eq_true]; and_intros <;> as_aux_lemma => kernel_rfl)
    (of_decide_eq_true (by kernel_rfl)) (by unfold Func.isWrapper; first | (rw [if_pos (by decide +kernel)]; kernel_rfl) | (rw [if_neg (by decide +kernel)]; exact ⟨rfl, rfl⟩))
    (fun os started H enc _ => clockPlays_lifted os started H enc)
#print axioms clockPlays_said
end Go.Proofs.Ytbgogbelnipfdaa
