/- The statement RedoEvery of package redo, walked: wherever the power goes while a log is done again, done once more each block has its last version, and the log is empty; it holds of every list of images and every two lists of ints. -/
import Derived.Test.YtedcgpnbbmjolaaGreatHU
import Derived.ChangeOld
import Derived.Deep.QuietTactic
namespace Go.Proofs.YtedcgpnbbmjolaaGreat
open Go Go.RowKit DskP WlP SupP RdoP RdkP Go.ChangeShapes Go.WideShapes Go.ChangeAt
set_option maxRecDepth 100000
set_option maxHeartbeats 4000000
set_option linter.unusedSimpArgs false


namespace RdoP
structure ClsI (wr : World) (cs : Array Value) (d : Nat → Option Value) (W : World) : Prop where
 low : Below wr.heap.size wr W
 ord : d 11 = none → d 12 = none
 at_ : ∀ v, d 11 = some v → ∃ g, v = .pointer (some ⟨g, 0, none⟩) ∧ wr.heap.size ≤ g ∧ Sits W g 94 (if d 12 = none then #[.int .i64 0, .int .u64 0, .string ⟨#[]⟩] else cs)
theorem ClsI.start (wr : World) (cs : Array Value) : ClsI wr cs (fun _ => none) wr.drew := ⟨(Below.refl _ _).drew, fun _ => rfl, fun v h => by simp at h⟩
section
variable {wr W W' : World} {cs : Array Value} {d : Nat → Option Value} {i : Nat}
theorem ClsI.step (h : ClsI wr cs d W) (h1 : i ≠ 11) (h2 : i ≠ 12) (v : Value) (hb : Below W.heap.size W W') : ClsI wr cs (setv d i v) W' := by
 refine ⟨h.low.trans (hb.mono h.low.size), ?_, ?_⟩ <;> rw [setv_other d v h1, setv_other d v h2]
 ·exact h.ord
 ·intro x hx
  obtain ⟨g, e, hg, hs⟩ := h.at_ x hx
  exact ⟨g, e, hg, hs.below' hb⟩
theorem ClsI.pure (h : ClsI wr cs d W) (h1 : i ≠ 11) (h2 : i ≠ 12) (v : Value) : ClsI wr cs (setv d i v) W := h.step h1 h2 v (Below.refl _ _)
theorem ClsI.make (h : ClsI wr cs d W) (hd : d 11 = none) : ClsI wr cs (setv d 11 (.pointer (some ⟨W.heap.size, 0, none⟩))) (W.alloc (.cells #[.int .i64 0, .int .u64 0, .string ⟨#[]⟩] 94)) := by
 have h12 := h.ord hd
 refine ⟨h.low.alloc h.low.size _, ?_, ?_⟩ <;> rw [setv_other d _ (show 11 ≠ 12 by decide), h12]
 ·exact fun _ => rfl
 ·intro x hx
  rw [setv_same] at hx
  injection hx with hx
  exact ⟨_, hx.symm, h.low.size, Sits.fresh W _ _⟩
theorem ClsI.old (h : ClsI wr cs d W) (hd : d 12 = none) {g : Nat} (h11 : d 11 = some (.pointer (some ⟨g, 0, none⟩))) : wr.heap.size ≤ g ∧ Sits W g 94 #[.int .i64 0, .int .u64 0, .string ⟨#[]⟩] := by
 obtain ⟨g', e, hg, hs⟩ := h.at_ _ h11
 rw [if_pos hd] at hs
 injection e with e
 injection e with e
 injection e with e _ _
 subst e
 exact ⟨hg, hs⟩
theorem ClsI.put {a b c : Value} (h : ClsI wr #[a, b, c] d W) (hd : d 12 = none) {g : Nat} (h11 : d 11 = some (.pointer (some ⟨g, 0, none⟩))) : ClsI wr #[a, b, c] (setv d 12 undef) (((W.setCell ⟨g, 0, none⟩ a).setCell ⟨g, 1, none⟩ b).setCell ⟨g, 2, none⟩ c) := by
 obtain ⟨hg, hs⟩ := h.old hd h11
 refine ⟨below_put (below_put (below_put h.low hg _ _) hg _ _) hg _ _, ?_, ?_⟩ <;> rw [setv_other d _ (show 12 ≠ 11 by decide), setv_same]
 ·intro e
  rw [e] at h11
  cases h11
 ·intro x hx
  rw [h11] at hx
  injection hx with hx
  exact ⟨g, hx.symm, hg, by rw [if_neg (by simp)]; exact ((hs.put 0 _).put 1 _).put 2 _⟩
theorem ClsI.done (h : ClsI wr cs d W) {g : Nat} (h11 : d 11 = some (.pointer (some ⟨g, 0, none⟩))) (h12 : (d 12).isSome = true) : wr.heap.size ≤ g ∧ Sits W g 94 cs := by
 obtain ⟨g', e, hg, hs⟩ := h.at_ _ h11
 rw [if_neg (by intro e2; rw [e2] at h12; cases h12)] at hs
 injection e with e
 injection e with e
 injection e with e _ _
 subst e
 exact ⟨hg, hs⟩
end
end RdoP
theorem redoEvery_walk (v : Value) (l : List Im) (v2 : Value) (tl : List Int) (v3 : Value) (kl : List Int) (w : World) (hl : (∀ x ∈ l, ImW x) ∧ Ims w v l) (ht : (∀ x ∈ tl, i64ok x) ∧ Ints w v2 tl) (hk : (∀ x ∈ kl, i64ok x) ∧ Ints w v3 kl) :
  Calls Tryz.prog 9 #[v, v2, v3] w fun e w' => e = .returned (.bool true) ∧ Below w.heap.size w w' := by
 have HAL := Lib.hid alive13_any
 have HRE := Lib.hid ready_any
 have HLI := Lib.hid (lightim_any 4 600 v l w hl.2 hl.1 (by omega) (by omega) (by omega) (by omega))
 obtain ⟨A, cap, rfl, ha1, ha2, ha3⟩ := hl.2
 obtain ⟨B, cap2, rfl, hb1, hb2, hb3⟩ := ht.2
 have hk0 := hk.2
 obtain ⟨C, cap3, rfl, hc1, hc2, hc3⟩ := hk.2
 have hlen : (l.length : Int) ≤ 9223372036854775807 := by omega
 have hlen2 : (tl.length : Int) ≤ 9223372036854775807 := by omega
 have hlen3 : (kl.length : Int) ≤ 9223372036854775807 := by omega
 have HLA := Lib.hid ha3
 have HLW := Lib.hid hl.1
 have HLB := Lib.hid hb3
 have HKI : Hid (∀ W, Below w.heap.size w W → Ints W (.slice C kl.length cap3) kl) := Lib.hid fun W hW => hk0.below hW
 clear hl ht hk hk0 ha3 hb3 hc3 ha1 ha2 hb1 hb2 hc1 hc2
 unfold aggH alSh at HRE
 simp only at HRE
 by_cases hbig : 6 < tl.length ∨ 60 < kl.length
 ·by_cases h1 : 6 < tl.length
  ·have d1 : decide ((6 : Int) < (tl.length : Int)) = true := decide_eq_true (by omega)
   have d1' : decide (6 < tl.length) = true := decide_eq_true h1
   clear hbig h1
   go_enter Tryz.func9, Tryz.ntmps9
   go_wp2_with fail
   refine HLI.out.mono ?_
   rintro e w1 ⟨⟨q, rfl, _⟩, hb⟩
   have HB1 := Lib.hid hb
   clear hb
   cases q
   all_goals
    go_wp2_with fail
    refine (HAL.out w1).mono ?_
    rintro e w2 ⟨rfl, hb⟩
    have HB := Lib.hid (HB1.out.trans (hb.mono HB1.out.size))
    clear hb
    go_wp2
    go_ret
    exact ⟨rfl, HB.out⟩
  ·have d1 : decide ((6 : Int) < (tl.length : Int)) = false := decide_eq_false (by omega)
   have d1' : decide (6 < tl.length) = false := decide_eq_false h1
   have d2 : decide ((60 : Int) < (kl.length : Int)) = true := decide_eq_true (by omega)
   have d2' : decide (60 < kl.length) = true := decide_eq_true (by omega)
   clear hbig h1
   go_enter Tryz.func9, Tryz.ntmps9
   go_wp2_with fail
   refine HLI.out.mono ?_
   rintro e w1 ⟨⟨q, rfl, _⟩, hb⟩
   have HB1 := Lib.hid hb
   clear hb
   cases q
   all_goals
    go_wp2_with fail
    refine (HAL.out w1).mono ?_
    rintro e w2 ⟨rfl, hb⟩
    have HB := Lib.hid (HB1.out.trans (hb.mono HB1.out.size))
    clear hb
    go_wp2
    go_ret
    exact ⟨rfl, HB.out⟩
 ·have hs1 : tl.length ≤ 6 := by omega
  have hs2 : kl.length ≤ 60 := by omega
  have d1 : decide ((6 : Int) < (tl.length : Int)) = false := decide_eq_false (by omega)
  have d1' : decide (6 < tl.length) = false := decide_eq_false (by omega)
  have d2 : decide ((60 : Int) < (kl.length : Int)) = false := decide_eq_false (by omega)
  have d2' : decide (60 < kl.length) = false := decide_eq_false (by omega)
  have HS1 := Lib.hid hs1
  have HS2 := Lib.hid hs2
  clear hbig hs1 hs2
  go_enter Tryz.func9, Tryz.ntmps9
  go_wp2_with fail
  refine HLI.out.mono ?_
  rintro e w1 ⟨⟨q, rfl, hq⟩, hb⟩
  have HB1 := Lib.hid hb
  clear hb
  cases q with
  | false =>
   clear hq
   go_wp2_with fail
   refine (HAL.out w1).mono ?_
   rintro e w2 ⟨rfl, hb⟩
   have HB := Lib.hid (HB1.out.trans (hb.mono HB1.out.size))
   clear hb
   go_wp2
   go_ret
   exact ⟨rfl, HB.out⟩
  | true =>
   have HQ := Lib.hid (hq rfl)
   clear hq
   go_wp2_with fail
   refine (HRE.out w1).mono ?_
   rintro e w2 ⟨d, r, rfl, hA⟩
   obtain ⟨S, hlaw, hA2⟩ := start13 hA
   obtain ⟨W2, hW2⟩ : ∃ W, W = w2.alloc (.cells #[.int .i64 2, .int .i64 10, .int .i64 8, .int .i64 4, .int .i64 32] 31) := ⟨_, rfl⟩
   obtain ⟨lb, hlb⟩ : ∃ x, x = w2.heap.size := ⟨_, rfl⟩
   rw [← hW2, ← hlb] at hlaw
   rw [← hW2] at hA2
   have HLAW := Lib.hid hlaw
   have HA2 := Lib.hid hA2
   clear hA hlaw hA2
   have HOP := Lib.hid fun W (h : At (DP d rdyD) S W2 W) => open14_any HLAW.out.new_ h
   unfold aggH alSh at HOP
   simp only at HOP
   go_wp2_with fail
   rw [← hW2, ← hlb]
   clear hW2 hlb
   refine (HOP.out W2 HA2.out).mono ?_
   rintro e w3 ⟨p, k, q, D1, rfl, hA, hp, hs, hl, ha, hn, hc⟩
   have HST : Hid (∃ S, Law13 w1 w3 S lb ∧ LDP d p k q lgA D1 S w3 ∧ AddI D1 0 lgA) := Lib.hid ⟨S, HLAW.out.step hA.many, hA.here, AddI.start hp⟩
   have HD1 := Lib.hid (And.intro hs (And.intro hl (And.intro hn (And.intro hc ha))))
   clear hA hp hs hl ha hn hc HA2 HOP HLAW
   go_wp2_with fail
   go_loopw [13, 14] (fun uv iv wr => ∃ (u : Value) (i m : Nat), u = uv ∧ i ≤ l.length ∧ iv = .int .i64 (i : Int) ∧ Hid (∃ S G xs, Law13 w1 wr S lb ∧ LDP d p k q G D1 S wr ∧ AddI D1 m G ∧ RowAt wr w1.heap.size 94 3 u m xs ∧ (∀ b, u.ownBlock = some b → ¬ S b) ∧ m ≤ i)) (fun _ iv _ => l.length - (intOf iv).toNat)
   case atStart =>
    obtain ⟨S, a1, a2, a3⟩ := HST.out
    exact ⟨_, 0, 0, rfl, by omega, rfl, Lib.hid ⟨S, lgA, [], a1, a2, a3, RowAt.nil _ _ _ _, fun b hb => by simp [Value.ownBlock] at hb, Nat.le_refl _⟩⟩
   case round =>
    obtain ⟨u, i, m, rfl, hi, rfl, hI⟩ := hrel
    clear HST
    by_cases hlt : i < l.length
    ·obtain ⟨b, o, rfl, hbw, hx⟩ := HLA.out i hlt
     have hxw := HLW.out l[i] (List.getElem_mem hlt)
     obtain ⟨S, G, xs, hlaw, hld, hadd, hrow, hnot, hmi⟩ := hI.out
     have hbl := HB1.out.trans (hlaw.base.mono HB1.out.size)
     have c0 := (hbl.cell (p := ⟨b, o + i * 3 + 0, none⟩) hbw).trans (hx 0 _ rfl)
     have c1 := (hbl.cell (p := ⟨b, o + i * 3 + 1, none⟩) hbw).trans (hx 1 _ rfl)
     have c2 := (hbl.cell (p := ⟨b, o + i * 3 + 2, none⟩) hbw).trans (hx 2 _ rfl)
     rw [Nat.add_zero] at c0
     have HX : Hid (∀ W, Below w.heap.size w W → W.cell? ⟨b, o + i * 3, none⟩ = some (.int .i64 l[i].b) ∧ W.cell? ⟨b, o + i * 3 + 1, none⟩ = some (.int .u64 (l[i].v : Int)) ∧ W.cell? ⟨b, o + i * 3 + 2, none⟩ = some (.string (str l[i].d))) := Lib.hid fun W hW =>
      ⟨(hW.cell (p := ⟨b, o + i * 3, none⟩) hbw).trans (hx 0 _ rfl), (hW.cell (p := ⟨b, o + i * 3 + 1, none⟩) hbw).trans (hx 1 _ rfl), (hW.cell (p := ⟨b, o + i * 3 + 2, none⟩) hbw).trans (hx 2 _ rfl)⟩
     generalize l[i] = x at c0 c1 c2 hxw HX
     obtain ⟨xb, xv, xd⟩ := x
     simp only at c0 c1 c2 HX
     have hltI : (i : Int) < (l.length : Int) := by omega
     have HI4 : Hid (i ≤ 4) := Lib.hid (by have := HQ.out.1; omega)
     have HXW := Lib.hid hxw
     have HBW := Lib.hid hbl
     have HL0 := Lib.hid hlaw
     clear hx hbw hbl
     have hcases : xb < 0 ∨ (¬ xb < 0 ∧ 9 < xb) ∨ (¬ xb < 0 ∧ ¬ 9 < xb ∧ xv = 0) ∨ (¬ xb < 0 ∧ ¬ 9 < xb ∧ xv ≠ 0) := by omega
     rcases hcases with h1 | ⟨h1, h2⟩ | ⟨h1, h2, h3⟩ | ⟨h1, h2, h3⟩
     ·have e1 : decide (xb < 0) = true := decide_eq_true h1
      have HB := Lib.hid (hlaw.base)
      clear hI hlaw hld hadd hrow hnot HX hxw h1
      go_wp2_with fail
      refine (HAL.out wr).mono ?_
      rintro e w5 ⟨rfl, hb⟩
      have HF := Lib.hid (HBW.out.trans (hb.mono HBW.out.size))
      clear hb
      go_wp2
      go_ret
      exact ⟨rfl, HF.out⟩
     ·have e1 : decide (xb < 0) = false := decide_eq_false h1
      have e2 : decide (9 < xb) = true := decide_eq_true h2
      clear hI hlaw hld hadd hrow hnot HX hxw h1 h2
      go_wp2_with fail
      refine (HAL.out wr).mono ?_
      rintro e w5 ⟨rfl, hb⟩
      have HF := Lib.hid (HBW.out.trans (hb.mono HBW.out.size))
      clear hb
      go_wp2
      go_ret
      exact ⟨rfl, HF.out⟩
     ·have e1 : decide (xb < 0) = false := decide_eq_false h1
      have e2 : decide (9 < xb) = false := decide_eq_false h2
      subst h3
      clear hI hlaw hld hadd hrow hnot HX hxw h1 h2
      go_wp2_with fail
      refine (HAL.out wr).mono ?_
      rintro e w5 ⟨rfl, hb⟩
      have HF := Lib.hid (HBW.out.trans (hb.mono HBW.out.size))
      clear hb
      go_wp2
      go_ret
      exact ⟨rfl, HF.out⟩
     ·have e1 : decide (xb < 0) = false := decide_eq_false h1
      have e2 : decide (9 < xb) = false := decide_eq_false h2
      have e3 : ((xv : Int) == 0) = false := by rw [beq_eq_false_iff_ne]; omega
      have hok := hadd.ok
      have HAI := Lib.hid (add_im hlaw.new_ hld hok.1 (by have := HI4.out; omega) ⟨xb, xv, xd⟩ HXW.out)
      simp only at HAI
      have HROW := Lib.hid (And.intro hrow (And.intro hnot hmi))
      have had := hadd.add (i := ⟨xb, xv, xd⟩) (by have := HI4.out; omega) HXW.out.v (by show 0 < xv; omega) (by show xb ≤ 9; omega)
      obtain ⟨⟨⟨wx, we⟩, G2⟩, hW⟩ : ∃ R, R = wadd G [⟨xb, xv, xd⟩] := ⟨_, rfl⟩
      rw [← hW] at HAI had
      simp only at HAI
      have HAD := Lib.hid had
      have HOLD := Lib.hid hadd
      clear hI hlaw hld hadd hrow hnot hxw hok had hW h1 h2 h3
      go_wp2_with fail
      refine HAI.out.mono ?_
      rintro e w5 ⟨rfl, hld5, hm5⟩
      have HL5 := Lib.hid (HL0.out.step hm5)
      have HD5 := Lib.hid hld5
      have HR5 : Hid (RowAt w5 w1.heap.size 94 3 u m xs) := Lib.hid (HROW.out.1.keep fun b hb => hm5.block b (HROW.out.1.lt b hb).2 (HROW.out.2.1 b hb))
      clear hld5 hm5 HAI c0 c1 c2
      by_cases hwe : we = 0
      ·obtain ⟨x', G', e7, hadd'⟩ : ∃ x' G', (((wx, we), G2) : (Nat × Nat) × Lg) = ((x', 0), G') ∧ AddI D1 (m + 1) G' := by
        rcases HAD.out with ⟨r', hr', e7⟩ | h7
        ·simp only [Prod.mk.injEq] at e7
         exact absurd (e7.1.2.symm.trans hwe) hr'
        ·exact h7
       have hG : G2 = G' := (Prod.mk.inj e7).2
       have HAD' : Hid (AddI D1 (m + 1) G2) := Lib.hid (by rw [hG]; exact hadd')
       obtain ⟨c0, c1, c2⟩ := HX.out w5 (HB1.out.trans (HL5.out.base.mono HB1.out.size))
       obtain ⟨v', W7, hrun, hpush, hb7, hk7, hat7⟩ := push_im HR5.out ⟨xb, xv, xd⟩ HL5.out.base.size (by have := HROW.out.2.2; have := HI4.out; omega) 65
       simp only at hrun
       have HRUN := Lib.hid hrun
       have hsz7 : w5.heap.size + 1 ≤ W7.heap.size ∨ True := .inr trivial
       have HNX : Hid (∃ S G xs, Law13 w1 W7 S lb ∧ LDP d p k q G D1 S W7 ∧ AddI D1 (m + 1) G ∧ RowAt W7 w1.heap.size 94 3 v' (m + 1) xs ∧ (∀ b, v'.ownBlock = some b → ¬ S b) ∧ m + 1 ≤ i + 1) := Lib.hid (by
        obtain ⟨q1, q2⟩ := HL5.out.leave (holdLD d p k q G2 D1) HD5.out (W := W7) (fun j hj hjs => hk7 j hj fun e => by
         rcases hjs with hS | rfl
         ·exact HROW.out.2.1 j e hS
         ·obtain ⟨cu, su⟩ := HR5.out.sits _ e
          exact HL5.out.lay2.apart su (by decide) rfl) (HL5.out.base.trans hb7) hb7.size
        refine ⟨_, G2, _, q1, q2, HAD'.out, hpush, fun b hb hsp => ?_, by have := HROW.out.2.2; omega⟩
        rcases hat7 with e | e
        ·exact HROW.out.2.1 b (e.symm.trans hb) hsp.1
        ·rw [e] at hb
         injection hb with hb
         exact hsp.2 ⟨by omega, (hpush.lt b (by rw [e, hb])).2⟩)
       subst hwe
       clear hrun hpush hb7 hk7 hat7 hadd' hG e7 hsz7 HX HROW HR5 HD5 HL5 HL0 HOLD HAD
       go_wp2_with (at_builtin; refine wpList_append_eq rfl (.tmp 103) (.tmp 108) 65 65 rfl _ _ _ rfl rfl HRUN.out ?_)
       go_roundw
       case rel => exact ⟨v', i + 1, m + 1, rfl, by omega, by go_num, HNX⟩
       case measure => simp [intOf]; omega
      ·have e7 : G2 = G := by
        rcases HAD.out with ⟨r', hr', e7⟩ | ⟨x', G', e7, _⟩
        ·exact (Prod.mk.inj e7).2
        ·exact absurd (congrArg (fun y => y.1.2) e7) hwe
       have e4 : ((we : Int) == 0) = false := by rw [beq_eq_false_iff_ne]; omega
       subst e7
       have HNX : Hid (∃ S G xs, Law13 w1 w5 S lb ∧ LDP d p k q G D1 S w5 ∧ AddI D1 m G ∧ RowAt w5 w1.heap.size 94 3 u m xs ∧ (∀ b, u.ownBlock = some b → ¬ S b) ∧ m ≤ i + 1) := Lib.hid ⟨S, _, xs, HL5.out, HD5.out, HOLD.out, HR5.out, HROW.out.2.1, by have := HROW.out.2.2; omega⟩
       clear HX HROW HR5 HD5 HL5 HL0 HOLD HAD hwe
       go_wp2
       go_roundw
       case rel => exact ⟨u, i + 1, m, rfl, by omega, by go_num, HNX⟩
       case measure => simp [intOf]; omega
    ·obtain rfl : i = l.length := by omega
     obtain ⟨S, G, xs, hlaw, hld, hadd, hrow, hnot, hmi⟩ := hI.out
     obtain ⟨hs1, hl9, hn37, hc1, ha1⟩ := HD1.out
     obtain ⟨G2, D2, X1, X, L, hh, e1, ok1, pl1, c2, f1, c3, f2, c4, on4, n4, sc2, scl, hL, h9, hv0, hhv, hhe, hrv⟩ := every13 hadd hs1 hl9 hn37 hc1 ha1
     have HSY := Lib.hid ((lgsync_any d p k q G D1 ok1 (by omega)) S wr hlaw.new_ hld)
     rw [e1] at HSY
     simp only at HSY
     have HL0 := Lib.hid hlaw
     have HROW := Lib.hid (And.intro hrow hnot)
     have HFE := Lib.hid (op_fen (p := d) (D := D2) (by omega) 1 f1)
     have HAM := Lib.hid (op_adm (p := d) (D := X1) (by omega) 2 20 f2)
     have HSC := Lib.hid fun S w (h : DP d X S w) => scan13 h on4 n4
     rw [sc2] at HSC
     unfold aggH alSh at HSC
     simp only at HSC
     have HSX := Lib.hid (And.intro scl hL)
     have HPL := Lib.hid (And.intro h9 (And.intro hv0 (And.intro hhv (And.intro hhe (And.intro hrv (And.intro n4 c4))))))
     obtain ⟨UA, ucap, rfl, hu1, hu2, _⟩ := hrow.form
     have hmI : (m : Int) ≤ 9223372036854775807 := by omega
     have HM4 : Hid (m ≤ 4) := Lib.hid (by have := HQ.out.1; omega)
     clear hI hlaw hld hadd hrow hnot hmi hs1 hl9 hn37 hc1 ha1 e1 ok1 pl1 c2 f1 c3 f2 c4 on4 n4 sc2 scl hL h9 hv0 hhv hhe hrv hu1 hu2 HD1
     go_wp2_with fail
     refine HSY.out.mono ?_
     rintro e w5 ⟨rfl, hd5, hm5⟩
     have HL5 := Lib.hid (HL0.out.step hm5)
     have HD5 := Lib.hid (At.disk ⟨hd5, Many.refl S w5⟩).here
     clear hd5 hm5 HSY HL0 HROW
     go_wp2_with fail
     refine (HFE.out S w5 HL5.out.new_ HD5.out).mono ?_
     rintro e w6 ⟨rfl, hd6, hm6⟩
     have HL6 := Lib.hid (HL5.out.step hm6)
     have HD6 := Lib.hid hd6
     clear hd6 hm6 HFE HL5 HD5
     go_wp2_with fail
     refine (HAM.out S w6 HL6.out.new_ HD6.out).mono ?_
     rintro e w7 ⟨rfl, hd7, hm7⟩
     have HL7 := Lib.hid (HL6.out.step hm7)
     have HD7 := Lib.hid hd7
     clear hd7 hm7 HAM HL6 HD6
     obtain ⟨y0, y1, y2, y3, y4, _⟩ := HL7.out.cells
     go_wp2_with fail
     refine (HSC.out S w7 HD7.out).mono ?_
     rintro e w8 ⟨sv, sl, rfl, hrc, hmp, hb8⟩
     have hsl : sl.length = m := by
      have := congrArg List.length hmp
      rw [List.length_map] at this
      exact this.trans HSX.out.1
     have hplan := plan_any sv sl w8 hrc.lists.1 hrc.lists.2 (by have := HM4.out; omega) (fun r hr => by
      have := (scanD_all X 1 7 r.rc (by rw [← hmp]; exact List.mem_map_of_mem hr)).1
      have e : r.rc.l = r.l := rfl
      rw [e] at this
      omega)
     rw [hmp, ← HSX.out.2] at hplan
     obtain ⟨VA, vcap, rfl, hv1, hv2, _⟩ := hrc.row.form
     have HPLAN := Lib.hid hplan
     have HB8 := Lib.hid hb8
     have HSL := Lib.hid hsl
     clear hrc hmp hb8 hplan hv1 hv2 y0 y1 y2 y3 y4 hsl
     go_wp2_with fail
     refine HPLAN.out.mono ?_
     rintro e w9 ⟨wv, rfl, hwant, hb9⟩
     have hb79 : Below w7.heap.size w7 w9 := HB8.out.trans (hb9.mono HB8.out.size)
     obtain ⟨q1, q2⟩ := HL7.out.leave' (holdD d X) HD7.out hb79
     obtain ⟨WA, wcap, rfl, hwc1, hwc2, _⟩ := hwant.form
     obtain ⟨wb, hwb⟩ : ∃ x, x = w7.heap.size := ⟨_, rfl⟩
     have HW9 : Hid (∃ S, Law13 w1 w9 S lb ∧ DP d X S w9 ∧ RowAt w9 wb 94 3 (.slice WA L.length wcap) L.length (L.flatMap encIm) ∧ (∀ b, (Value.slice WA L.length wcap).ownBlock = some b → ¬ S b)) := Lib.hid ⟨_, q1, q2, by rw [hwb]; exact hwant.mono HB8.out.size, fun b hb hsp => hsp.2 ⟨Nat.le_trans HB8.out.size (hwant.lt b hb).1, (hwant.lt b hb).2⟩⟩
     have HSLI : Hid (((sl.length : Int) != (m : Int)) = false) := Lib.hid (by rw [HSL.out]; simp)
     have hlenL : (L.length : Int) ≤ 9223372036854775807 := by omega
     clear q1 q2 hb79 hwant hb9 HPLAN HB8 HL7 HD7 hwc1 hwc2 hwb
     have dsl := HSLI.out
     go_wp2_with fail
     obtain ⟨RV, hRV⟩ : ∃ RV : Dsk → Prop, RV = fun D => Rv 2 20 17 10 1 7 zOld (upOf L zVer) L (X.pl 1).now (fun x => (X.pl (1 + (x + 1))).now) D := ⟨_, rfl⟩
     have HRV0 : Hid (RV X ∧ X.n = 37 ∧ X.count ≤ 3000) := Lib.hid (by rw [hRV]; exact HPL.out.2.2.2.2)
     have HTURN : Hid (∀ D n keep, RV D → RV { disarmD (runF (armD D n keep) alSh 1 7 9 2 20).2.2 with on := true }) := Lib.hid fun D n keep h => by
      rw [hRV] at h ⊢
      exact turn13 HPL.out.1 HSX.out.2 HPL.out.2.2.1 HPL.out.2.2.2.1 h n keep
     have HLAST : Hid (∀ D, RV D → ∃ m D', runF D alSh 1 7 9 2 20 = (m, 0, D') ∧ scanD D' 1 7 = ([], 0) ∧ D'.on = true ∧ D'.n = D.n ∧ ∀ x ∈ L, (loadD D' alSh x.b).2 = 0 ∧ (0 < x.v → loadD D' alSh x.b = (x, 0))) := Lib.hid fun D h => by
      rw [hRV] at h
      exact last13 HPL.out.1 HSX.out.2 HPL.out.2.2.1 HPL.out.2.2.2.1 h
     have HRON : Hid (∀ D, RV D → D.on = true) := Lib.hid fun D h => by
      rw [hRV] at h
      exact h.pw.on
     clear hRV
     go_loopw [20] (fun jv wr => ∃ j : Nat, j ≤ tl.length ∧ jv = .int .i64 (j : Int) ∧ Hid (∃ S Dk, Law13 w1 wr S lb ∧ DP d Dk S wr ∧ RV Dk ∧ Dk.n = 37 ∧ Dk.count ≤ 3000 + 1000 * j ∧ RowAt wr wb 94 3 (.slice WA L.length wcap) L.length (L.flatMap encIm) ∧ (∀ b, (Value.slice WA L.length wcap).ownBlock = some b → ¬ S b))) (fun jv _ => tl.length - (intOf jv).toNat)
     case atStart =>
      obtain ⟨S, a1, a2, a3, a4⟩ := HW9.out
      exact ⟨0, by omega, rfl, Lib.hid ⟨S, X, a1, a2, HRV0.out.1, HRV0.out.2.1, by have := HRV0.out.2.2; omega, a3, a4⟩⟩
     case round =>
      obtain ⟨j, hj, rfl, hJ⟩ := hrel
      clear HW9 HRV0
      by_cases hltj : j < tl.length
      ·obtain ⟨b, o, rfl, hbw, hx⟩ := HLB.out j hltj
       obtain ⟨S, Dk, hlaw, hd, hrv, hn, hcn, hrow, hnot⟩ := hJ.out
       have hbl := HB1.out.trans (hlaw.base.mono HB1.out.size)
       have c0 := (hbl.cell (p := ⟨b, o + j * 1 + 0, none⟩) hbw).trans (hx 0 _ rfl)
       rw [Nat.add_zero, Nat.mul_one] at c0
       obtain ⟨n15, hn15, hbits⟩ := bits_and_i64 tl[j] 15 (by omega)
       generalize tl[j] = y at c0 hbits
       have hbits' : bits BinOp.and IntKind.i64 y 15 = (n15 : Int) := hbits
       have hltI : (j : Int) < (tl.length : Int) := by omega
       have hcn9 : Dk.count ≤ 9000 := by have := HS1.out; omega
       have HKI2 : Hid (∀ W, Below w1.heap.size w1 W → Ints W (.slice C kl.length cap3) kl) := Lib.hid fun W hW => HKI.out W (HB1.out.trans (hW.mono HB1.out.size))
       have HARM := Lib.hid (op_arm (p := d) hlaw.new_ hd (n15 : Int) (by omega) (.slice C kl.length cap3) kl (by have := HS2.out; omega) (fun w' hm => HKI2.out w' (hlaw.low w' hm)))
       obtain ⟨DA, hDA⟩ : ∃ DA, DA = armD Dk (n15 : Int) kl := ⟨_, rfl⟩
       rw [← hDA] at HARM
       have hda : DA.on = true ∧ DA.n = 37 ∧ DA.count = Dk.count := by
        obtain ⟨_, _, h3, h4, _, h6⟩ := arm_same Dk (n15 : Int) kl
        rw [hDA]
        exact ⟨h4.trans (HRON.out Dk hrv), h6.trans hn, h3⟩
       obtain ⟨⟨rm, rr, DR⟩, hDR⟩ : ∃ R, R = runF DA alSh 1 7 9 2 20 := ⟨_, rfl⟩
       have hdn : DR.n = 37 := by
        have := runF_n DA alSh 1 7 9 2 20
        rw [← hDR] at this
        exact this.trans hda.2.1
       have HRUN := Lib.hid (op_run (p := d) (D := DA) (by omega) hda.1 hda.2.1 9 2 20 hDR.symm)
       unfold aggH alSh at HRUN
       simp only at HRUN
       have HCNT : Hid (DGood DA → DR.count ≤ Dk.count + 1000) := Lib.hid fun hg => by
        have := run_cnt DA hg hda.1 hda.2.1 9 2 20
        rw [← hDR, hda.2.2] at this
        exact this
       have HTN : Hid (RV { disarmD DR with on := true }) := Lib.hid (by
        have := HTURN.out Dk (n15 : Int) kl hrv
        rw [← hDA, ← hDR] at this
        exact this)
       have HDIS : Hid (armD DR (-1) [] = disarmD DR) := Lib.hid (by unfold armD; rw [if_pos (by decide)])
       have HARM2 : Hid (∀ S W, Law13 w1 W S lb → DP d DR S W → Calls Tryz.prog 53 #[.pointer (some ⟨d, 0, none⟩), .int .i64 (-1), .slice none 0 0] W fun e w' => e = .returned (.tuple #[]) ∧ DP d (disarmD DR) S w' ∧ Many S W w') := Lib.hid fun S W hl' hd' => by
        have := op_arm (p := d) hl'.new_ hd' (-1) (by omega) (.slice none 0 0) [] (by simp) (fun w' _ => SliceAt.nil _ _ _)
        rw [HDIS.out] at this
        exact this
       have HRES := Lib.hid (op_power (p := d) (D := disarmD DR) (by show 0 < DR.n; omega))
       have HL0 := Lib.hid hlaw
       have HROW := Lib.hid (And.intro hrow hnot)
       have HN := Lib.hid (And.intro hdn hcn)
       clear hJ hlaw hd hrv hn hcn hrow hnot hx hbw hbl hbits hda hDR hdn hDA
       go_wp2_with fail
       refine HARM.out.mono ?_
       rintro e w10 ⟨rfl, hd, hm⟩
       have HL1 := Lib.hid (HL0.out.step hm)
       have HD10 := Lib.hid hd
       have HR1 : Hid (RowAt w10 wb 94 3 (.slice WA L.length wcap) L.length (L.flatMap encIm)) := Lib.hid (HROW.out.1.keep fun b hb => hm.block b (HROW.out.1.lt b hb).2 (HROW.out.2 b hb))
       have HCT := Lib.hid (HCNT.out hd.good)
       clear hd hm HARM HL0 HCNT c0 hbits'
       obtain ⟨y0, y1, y2, y3, y4, _⟩ := HL1.out.cells
       go_wp2_with fail
       refine (HRUN.out S w10 HL1.out.new_ HD10.out).mono ?_
       rintro e w11 ⟨rfl, hd, hm⟩
       have HL2 := Lib.hid (HL1.out.step hm)
       have HD11 := Lib.hid hd
       have HR2 : Hid (RowAt w11 wb 94 3 (.slice WA L.length wcap) L.length (L.flatMap encIm)) := Lib.hid (HR1.out.keep fun b hb => hm.block b (HR1.out.lt b hb).2 (HROW.out.2 b hb))
       clear hd hm HRUN HL1 HD10 HR1 y0 y1 y2 y3 y4
       go_wp2_with fail
       refine (HARM2.out S w11 HL2.out HD11.out).mono ?_
       rintro e w12 ⟨rfl, hd, hm⟩
       have HL3 := Lib.hid (HL2.out.step hm)
       have HD12 := Lib.hid hd
       have HR3 : Hid (RowAt w12 wb 94 3 (.slice WA L.length wcap) L.length (L.flatMap encIm)) := Lib.hid (HR2.out.keep fun b hb => hm.block b (HR2.out.lt b hb).2 (HROW.out.2 b hb))
       clear hd hm HARM2 HL2 HD11 HR2
       go_wp2_with fail
       refine (HRES.out S w12 HL3.out.new_ HD12.out).mono ?_
       rintro e w13 ⟨rfl, hd, hm⟩
       have HNX : Hid (∃ S Dk, Law13 w1 w13 S lb ∧ DP d Dk S w13 ∧ RV Dk ∧ Dk.n = 37 ∧ Dk.count ≤ 3000 + 1000 * (j + 1) ∧ RowAt w13 wb 94 3 (.slice WA L.length wcap) L.length (L.flatMap encIm) ∧ (∀ b, (Value.slice WA L.length wcap).ownBlock = some b → ¬ S b)) := Lib.hid
        ⟨S, { disarmD DR with on := true }, HL3.out.step hm, hd, HTN.out, HN.out.1, (by have h1 := HCT.out; have h2 := HN.out.2; show DR.count ≤ _; omega), HR3.out.keep (fun b hb => hm.block b (HR3.out.lt b hb).2 (HROW.out.2 b hb)), HROW.out.2⟩
       clear hd hm HRES HL3 HD12 HR3 HROW HTN HN HCT HDIS
       go_wp2
       go_roundw
       case rel => exact ⟨j + 1, by omega, by go_num, HNX⟩
       case measure => simp [intOf]; omega
      ·obtain rfl : j = tl.length := by omega
       obtain ⟨S, Dk, hlaw, hd, hrv, hn, hcn, hrow, hnot⟩ := hJ.out
       obtain ⟨rm, DF, hrun, hsc, hon, hnF, hld⟩ := HLAST.out Dk hrv
       have hcn9 : Dk.count ≤ 9000 := by have := HS1.out; omega
       have HRUN := Lib.hid (op_run (p := d) (D := Dk) (by omega) (HRON.out Dk hrv) hn 9 2 20 hrun S wr hlaw.new_ hd)
       have hn37 : DF.n = 37 := hnF.trans hn
       have HSC := Lib.hid fun S w (h : DP d DF S w) => scan13 h hon hn37
       rw [hsc] at HSC
       have HLOAD := Lib.hid hld
       have HON := Lib.hid (And.intro hon hn37)
       unfold aggH alSh at HRUN HSC
       simp only at HRUN HSC
       have HL0 := Lib.hid hlaw
       have HROW := Lib.hid (And.intro hrow hnot)
       obtain ⟨y0, y1, y2, y3, y4, _⟩ := hlaw.cells
       clear hJ hlaw hd hrv hn hcn hrow hnot hrun hsc hon hnF hld hn37
       go_wp2_with fail
       refine HRUN.out.mono ?_
       rintro e w10 ⟨rfl, hd, hm⟩
       have HL1 := Lib.hid (HL0.out.step hm)
       have HD10 := Lib.hid hd
       have HR1 : Hid (RowAt w10 wb 94 3 (.slice WA L.length wcap) L.length (L.flatMap encIm)) := Lib.hid (HROW.out.1.keep fun b hb => hm.block b (HROW.out.1.lt b hb).2 (HROW.out.2 b hb))
       clear hd hm HRUN HL0 y0 y1 y2 y3 y4
       obtain ⟨y0, y1, y2, y3, y4, _⟩ := HL1.out.cells
       go_wp2_with fail
       refine (HSC.out S w10 HD10.out).mono ?_
       rintro e w11 ⟨yv, yl, rfl, hyr, hym, hb⟩
       have hyl : yl.length = 0 := by
        have := congrArg List.length hym
        rwa [List.length_map] at this
       obtain ⟨YA, ycap, rfl, _, _, _⟩ := hyr.row.form
       have HYL := Lib.hid hyl
       have HL2 := Lib.hid (HL1.out.down hb)
       have HD11 := Lib.hid ((holdD d DF).keep HD10.out fun k hk h2 => hb.block k h2)
       have HR2 := Lib.hid (HR1.out.below hb)
       clear hyr hym hb HSC HL1 HD10 HR1 y0 y1 y2 y3 y4
       rw [hyl]
       clear hyl
       have HW11 : Hid (Below w1.heap.size w1 w11) := Lib.hid HL2.out.base
       go_wp2_with fail
       have HST3 : Hid (Law13 w1 w11 S lb ∧ DP d DF S w11 ∧ RowAt w11 wb 94 3 (.slice WA L.length wcap) L.length (L.flatMap encIm)) := Lib.hid ⟨HL2.out, HD11.out, HR2.out⟩
       have HHD : Hid (∀ W W', DP d DF S W → Below W.heap.size W W' → DP d DF S W') := Lib.hid fun W W' h hb => (holdD d DF).keep h fun k hk h2 => hb.block k h2
       clear HL2 HD11 HR2
       go_loopw [25] (fun jv wr => ∃ j : Nat, j ≤ L.length ∧ jv = .int .i64 (j : Int) ∧ Hid (Law13 w1 wr S lb ∧ DP d DF S wr ∧ RowAt wr wb 94 3 (.slice WA L.length wcap) L.length (L.flatMap encIm))) (fun jv _ => L.length - (intOf jv).toNat)
       case atStart => exact ⟨0, by omega, rfl, HST3⟩
       case round =>
        obtain ⟨j, hj, rfl, hJ⟩ := hrel
        clear HST3
        by_cases hltj : j < L.length
        ·obtain ⟨hlaw, hd, hrow⟩ := hJ.out
         obtain ⟨WA2, wcap2, he2, _, _, hWA, hcell⟩ := hrow.form
         injection he2 with he3 _ he4
         subst he3 he4
         obtain ⟨g, o, rfl⟩ := hWA (by omega)
         obtain ⟨_, hgl, hgc, _⟩ := hcell g o rfl
         have hld := HLOAD.out L[j] (List.getElem_mem hltj)
         have hv0 := HPL.out.2.1 L[j] (List.getElem_mem hltj)
         have g0 := hgc _ _ (flat_at (f := encIm) (k := 3) (fun _ => rfl) L j hltj 0 _ rfl)
         have g1 := hgc _ _ (flat_at (f := encIm) (k := 3) (fun _ => rfl) L j hltj 1 _ rfl)
         have g2 := hgc _ _ (flat_at (f := encIm) (k := 3) (fun _ => rfl) L j hltj 2 _ rfl)
         rw [← Nat.add_assoc] at g1 g2
         rw [Nat.add_zero] at g0
         generalize L[j] = x at g0 g1 g2 hld hv0
         have hld' := hld.2 hv0
         obtain ⟨xb, xv, xd⟩ := x
         simp only at g0 g1 g2 hld'
         have HLOA : Hid (∀ W, Below wr.heap.size wr W → Calls Tryz.prog 44 #[.pointer (some ⟨d, 0, none⟩), aggH alSh, .int .i64 xb] W fun e w' => e = .returned (.tuple #[.agg #[.int .i64 xb, .int .u64 (xv : Int), .string (str xd)], .int .i64 0]) ∧ Below W.heap.size W w') := Lib.hid fun W hW => by
          have := bload_any d DF alSh alSh_valid xb W (HHD.out wr W hd hW)
          rw [hld'] at this
          exact this
         unfold aggH alSh at HLOA
         simp only at HLOA
         obtain ⟨y0, y1, y2, y3, y4, hlbl⟩ := hlaw.cells
         have HCE : Hid (∀ W, Below wr.heap.size wr W → W.cell? ⟨g, o + j * 3, none⟩ = some (.int .i64 xb) ∧ W.cell? ⟨g, o + j * 3 + 1, none⟩ = some (.int .u64 (xv : Int)) ∧ W.cell? ⟨g, o + j * 3 + 2, none⟩ = some (.string (str xd)) ∧ g < W.heap.size) := Lib.hid fun W hW => ⟨(hW.cell (p := ⟨g, o + j * 3, none⟩) hgl).trans g0, (hW.cell (p := ⟨g, o + j * 3 + 1, none⟩) hgl).trans g1, (hW.cell (p := ⟨g, o + j * 3 + 2, none⟩) hgl).trans g2, Nat.lt_of_lt_of_le hgl hW.size⟩
         have HYY : Hid (∀ W, Below wr.heap.size wr W → W.cell? ⟨lb, 0, none⟩ = some (.int .i64 2) ∧ W.cell? ⟨lb, 1, none⟩ = some (.int .i64 10) ∧ W.cell? ⟨lb, 2, none⟩ = some (.int .i64 8) ∧ W.cell? ⟨lb, 3, none⟩ = some (.int .i64 4) ∧ W.cell? ⟨lb, 4, none⟩ = some (.int .i64 32) ∧ lb < W.heap.size) := Lib.hid fun W hW => (hlaw.down hW).cells
         have HNX : Hid (∀ W, Below wr.heap.size wr W → Law13 w1 W S lb ∧ DP d DF S W ∧ RowAt W wb 94 3 (.slice (some ⟨g, o, none⟩) L.length wcap) L.length (L.flatMap encIm)) := Lib.hid fun W hW => ⟨hlaw.down hW, HHD.out wr W hd hW, hrow.below hW⟩
         have hltI : (j : Int) < (L.length : Int) := by omega
         have hne : g ≠ wr.heap.size := by omega
         clear hJ hlaw hd hrow hcell hgc hld hld' hv0
         go_wp2_with fail
         refine wp_region_exV (by kernel_rfl) (ClsI wr #[.int .i64 xb, .int .u64 (xv : Int), .string (str xd)])
          [[(7, none)], [(9, none)], [(19, none)], [(25, none)], [(189, some 2), (190, some 3)], [(191, some 4)], [(192, some 5)], [(187, some 0), (188, some 1), (193, some 6)], [(194, some 7)], [(186, some 8)], [(186, some 8)], [], [(26, some 11), (195, some 9)], [(196, some 10)]]
          [none, none, none, none, none, none, none, none, none, none, none, none, none, none, none, none, none, none, none, none, none, none, none, none, none, none, some 11, some 13, none, none, none, none, none, none, none, none, none, none, none, none, none, none, none, none, none, none, none, none, none, none, none, none, none, none, none, none, none, none, none, none, none, none, none, none, none, none, none, none, none, none, none, none, none, none, none, none, none, none, none, none, none, none, none, none, none, none, none, none, none, none, none, none, none, none, none, none, none, none, none, none, none, none, none, none, none, none, none, none, none, none, none, none, none, none, none, none, none, none, none, none, none, none, none, none, none, none, none, none, none, none, none, none, none, none, none, none, none, none, none, none, none, none, none, none, none, none, none, none, none, none, none, none, none, none, none, none, none, none, none, none, none, none, none, none, none, none, none, none, none, none, none, none, none, none, none, none, none, none, none, none, none, none, none, none, none, none, some 8, some 0, some 1, some 2, some 3, some 4, some 5, some 6, some 7, some 9, some 10, none, none, none, none, none, none, none, none, none, none, none] (by kernel_rfl) (by kernel_rfl) (ClsI.start _ _) ?_
         iterate 7
          refine exV_pure (c := ?_) (fun _ _ _ h => h.pure (by decide) (by decide) _) ?_ ?_
          rotate_left
          ·intro a' d' W hR hF
           simp only [FactsV, List.nil_append, List.cons_append, List.getD_cons_zero, List.getD_cons_succ, exists_eq_left, and_true, true_and, List.getElem?_toArray, List.getElem?_cons_zero, List.getElem?_cons_succ] at hF
           obtain ⟨r0, r1, r2, hgl2⟩ := HCE.out W hR.low
           obtain ⟨y0, y1, y2, y3, y4, _⟩ := HYY.out W hR.low
           refine ⟨?_, ?_⟩
           ·simp [Region.wanted, yielded, hF]
           ·go_simp
            with_reducible rfl
         refine exV_callv (fun x => x = .tuple #[.agg #[.int .i64 xb, .int .u64 (xv : Int), .string (str xd)], .int .i64 0]) (fun a' d' W hd hR hF => ?_) ?_
         ·skip
          simp only [FactsV, List.nil_append, List.cons_append, List.getD_cons_zero, List.getD_cons_succ, exists_eq_left, and_true, true_and, List.getElem?_toArray, List.getElem?_cons_zero, List.getElem?_cons_succ] at hF
          exact ⟨by simp [Region.wanted, yielded, hF], 44, #[.pointer (some ⟨d, 0, none⟩), .agg #[.int .i64 2, .int .i64 10, .int .i64 8, .int .i64 4, .int .i64 32], .int .i64 xb], by go_simp, (HLOA.out W hR.low).mono fun e w' ⟨he, hb⟩ => ⟨_, he, hR.step (by decide) (by decide) _ hb, rfl⟩⟩
         iterate 3
          refine exV_pure (c := ?_) (fun _ _ _ h => h.pure (by decide) (by decide) _) ?_ ?_
          rotate_left
          ·intro a' d' W hR hF
           simp only [FactsV, List.nil_append, List.cons_append, List.getD_cons_zero, List.getD_cons_succ, exists_eq_left, and_true, true_and, List.getElem?_toArray, List.getElem?_cons_zero, List.getElem?_cons_succ] at hF
           refine ⟨?_, ?_⟩
           ·simp [Region.wanted, yielded, hF]
           ·go_simp
            with_reducible rfl
         refine exV_step (fun v => ∃ g, v = .pointer (some ⟨g, 0, none⟩)) (fun a' d' W hd hR hF => ?_) ?_
         ·exact ⟨by simp [Region.wanted, yielded], .pointer (some ⟨W.heap.size, 0, none⟩), W.alloc (.cells #[.int .i64 0, .int .u64 0, .string ⟨#[]⟩] 94), by go_simp, ⟨_, rfl⟩, hR.make hd⟩
         refine exV_store (fun a' d' W hd hR hF => ?_) ?_
         ·skip
          simp only [FactsV, List.nil_append, List.cons_append, List.getD_cons_zero, List.getD_cons_succ, exists_eq_left, and_true, true_and, List.getElem?_toArray, List.getElem?_cons_zero, List.getElem?_cons_succ] at hF
          obtain ⟨⟨vx, ⟨gx, rfl⟩, t26, h11⟩, t195, _⟩ := hF
          obtain ⟨hgx, hs⟩ := hR.old hd h11
          have z0 := hs.cell 0
          have z1 := hs.cell 1
          have z2 := hs.cell 2
          have f0 := hs.warm 0
          have f1 := hs.warm 1
          have f2 := hs.warm 2
          refine ⟨by simp [Region.wanted, yielded], ((W.setCell ⟨gx, 0, none⟩ (.int .i64 xb)).setCell ⟨gx, 1, none⟩ (.int .u64 (xv : Int))).setCell ⟨gx, 2, none⟩ (.string (str xd)), by go_simp, hR.put hd h11⟩
         iterate 1
          refine exV_pure (c := ?_) (fun _ _ _ h => h.pure (by decide) (by decide) _) ?_ ?_
          rotate_left
          ·intro a' d' W hR hF
           simp only [FactsV, List.nil_append, List.cons_append, List.getD_cons_zero, List.getD_cons_succ, exists_eq_left, and_true, true_and, List.getElem?_toArray, List.getElem?_cons_zero, List.getElem?_cons_succ] at hF
           refine ⟨?_, ?_⟩
           ·simp [Region.wanted, yielded, hF]
           ·go_simp
            with_reducible rfl
         show ∀ d W, _ → _ → _
         intro d w15 hA2 hR2
         simp only [FinV, List.nil_append, List.cons_append, List.getD_cons_zero, List.getD_cons_succ, forall_eq, forall_const, true_implies, forall_exists_index, and_imp, Nat.reduceAdd, Array.getD_eq_getD_getElem?, List.getElem?_toArray, List.getElem?_cons_zero, List.getElem?_cons_succ, Option.getD_some]
         intro v gx hv h11
         subst hv
         obtain ⟨hgx, hs⟩ := hR2.done h11 (hA2 12 (by decide))
         have HB := Lib.hid hR2.low
         have z0 := hs.cell 0
         have z1 := hs.cell 1
         have z2 := hs.cell 2
         obtain ⟨r0, r1, r2, hgl2⟩ := HCE.out w15 HB.out
         clear hR2 hA2 h11 hs
         intros
         go_wp2_with fail
         go_quiet (fail)
         go_wp2_with fail
         go_roundw
         case rel => exact ⟨j + 1, by omega, by go_num, Lib.hid (HNX.out _ (below_drewN HB.out _))⟩
         case measure => simp [intOf]; omega
        ·obtain rfl : j = L.length := by omega
         have HB := Lib.hid hJ.out.1.base
         clear hJ
         go_wp2_with fail
         refine (HAL.out wr).mono ?_
         rintro e w14 ⟨rfl, hb⟩
         have HF := Lib.hid (HB1.out.trans ((HB.out.mono HB1.out.size).trans (hb.mono (Nat.le_trans HB1.out.size HB.out.size))))
         clear hb
         go_wp2
         go_ret
         exact ⟨rfl, HF.out⟩
end Go.Proofs.YtedcgpnbbmjolaaGreat
